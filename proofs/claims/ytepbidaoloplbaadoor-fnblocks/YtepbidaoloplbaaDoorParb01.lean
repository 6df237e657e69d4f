/-
  A run beside others, carried over from a run alone, up to the numbers of blocks. HERE: values, worlds and pieces of the semantics that are alike up to a renaming of blocks; a piece that ends well in the one world ends well, and alike, in the other; it touches nothing but what is renamed, or new; a block that the one world holds frozen is not written. No program is spoken of.
  A run beside others, carried over from a run alone, up to the numbers of blocks. HERE: a piece of the semantics that ends well in the one world ends well, and alike, in the other; what it lists; what it leaves as it was. No program is spoken of.
-/
import Derived.Calls
import Derived.WalkKit
import Derived.RunT
namespace Go.Proofs.YtepbidaoloplbaaDoor
open Go

/-- Which block of the one world stands for which of the other; below G they stand for themselves. -/
structure Ren where
  r : Nat → Nat → Prop
  G : Nat
  /-- Functions that a function value may be. -/
  A : Nat → Prop
  /-- Of a block of which only a part is known: where that part begins, and one (0: all of it is known). -/
  lo : Nat → Nat
  glo : ∀ b, b < G → lo b = 0
  /-- A type that is none. -/
  Bg : TypeId
  /-- Functions that may be called by name with so many arguments, and are told otherwise. -/
  D : Nat → Nat → Prop
instance : CoeFun Ren (fun _ => Nat → Nat → Prop) := ⟨Ren.r⟩
def Ren.le (ρ ρ' : Ren) : Prop := ρ'.G = ρ.G ∧ ρ'.A = ρ.A ∧ (∀ b b', ρ b b' → ρ' b b') ∧ ρ'.lo = ρ.lo ∧ ρ'.Bg = ρ.Bg ∧ ρ'.D = ρ.D
theorem Ren.le.app {ρ ρ' : Ren} (h : ρ.le ρ') {b b' : Nat} (k : ρ b b') : ρ' b b' := h.2.2.1 _ _ k
theorem Ren.le.lo {ρ ρ' : Ren} (h : ρ.le ρ') : ρ'.lo = ρ.lo := h.2.2.2.1
theorem Ren.le.bg {ρ ρ' : Ren} (h : ρ.le ρ') : ρ'.Bg = ρ.Bg := h.2.2.2.2.1
theorem Ren.le.dd {ρ ρ' : Ren} (h : ρ.le ρ') : ρ'.D = ρ.D := h.2.2.2.2.2
theorem Ren.le.refl (ρ : Ren) : ρ.le ρ := ⟨rfl, rfl, fun _ _ h => h, rfl, rfl, rfl⟩
theorem Ren.le.trans {ρ ρ' ρ'' : Ren} (h : ρ.le ρ') (h' : ρ'.le ρ'') : ρ.le ρ'' := ⟨h'.1.trans h.1, h'.2.1.trans h.2.1, fun _ _ k => h'.app (h.app k), h'.lo.trans h.lo, h'.bg.trans h.bg, h'.dd.trans h.dd⟩
def RelA (ρ : Ren) (a a' : Addr) : Prop := ρ a.block a'.block ∧ a'.off = a.off ∧ a'.spot = a.spot ∧ (a.block < ρ.G → a'.block = a.block) ∧ ρ.lo a.block ≤ a.off + 1
inductive RelV (ρ : Ren) : Value → Value → Prop
  | bool (b : Bool) : RelV ρ (.bool b) (.bool b)
  | int (k : IntKind) (n : Int) : RelV ρ (.int k n) (.int k n)
  | string (s : ByteArray) : RelV ρ (.string s) (.string s)
  | ptrNil : RelV ρ (.pointer none) (.pointer none)
  | ptr {a a' : Addr} (h : RelA ρ a a') : RelV ρ (.pointer (some a)) (.pointer (some a'))
  | sliceNil : RelV ρ (.slice none 0 0) (.slice none 0 0)
  | slice {a a' : Addr} (n c : Nat) (h : RelA ρ a a') : RelV ρ (.slice (some a) n c) (.slice (some a') n c)
  | mapNil : RelV ρ (.map none) (.map none)
  | chanNil : RelV ρ (.chan none) (.chan none)
  | func (f : FuncId) {x x' y y' : Array Value} (hA : ρ.A f) (hx : x.size = x'.size) (h1 : ∀ (i : Nat) v v', x[i]? = some v → x'[i]? = some v' → RelV ρ v v') (hy : y.size = y'.size) (h2 : ∀ (i : Nat) v v', y[i]? = some v → y'[i]? = some v' → RelV ρ v v') : RelV ρ (.func (.func f) x y) (.func (.func f) x' y')
  | nilFunc : RelV ρ .nilFunc .nilFunc
  | iface (t : TypeId) {v v' : Value} (h : RelV ρ v v') : RelV ρ (.iface t v) (.iface t v')
  | nilIface : RelV ρ .nilIface .nilIface
  | agg {x x' : Array Value} (hx : x.size = x'.size) (h : ∀ (i : Nat) v v', x[i]? = some v → x'[i]? = some v' → RelV ρ v v') : RelV ρ (.agg x) (.agg x')
  | tuple {x x' : Array Value} (hx : x.size = x'.size) (h : ∀ (i : Nat) v v', x[i]? = some v → x'[i]? = some v' → RelV ρ v v') : RelV ρ (.tuple x) (.tuple x')
/-- Rows of values, one by one. -/
def RelR (ρ : Ren) (x x' : Array Value) : Prop := x.size = x'.size ∧ ∀ (i : Nat) v v', x[i]? = some v → x'[i]? = some v' → RelV ρ v v'
theorem RelA.mono {ρ ρ' : Ren} (hle : ρ.le ρ') {a a' : Addr} (h : RelA ρ a a') : RelA ρ' a a' := ⟨hle.app h.1, h.2.1, h.2.2.1, fun k => h.2.2.2.1 (hle.1 ▸ k), by rw [hle.lo]; exact h.2.2.2.2⟩
theorem RelV.mono {ρ ρ' : Ren} (hle : ρ.le ρ') {v v' : Value} (h : RelV ρ v v') : RelV ρ' v v' := by
  induction h with
  | bool b => exact .bool b
  | int k n => exact .int k n
  | string s => exact .string s
  | ptrNil => exact .ptrNil
  | ptr h => exact .ptr (h.mono hle)
  | sliceNil => exact .sliceNil
  | slice n c h => exact .slice n c (h.mono hle)
  | mapNil => exact .mapNil
  | chanNil => exact .chanNil
  | func f hA hx _ hy _ ih1 ih2 => exact .func f (by rw [hle.2.1]; exact hA) hx ih1 hy ih2
  | nilFunc => exact .nilFunc
  | iface t _ ih => exact .iface t ih
  | nilIface => exact .nilIface
  | agg hx _ ih => exact .agg hx ih
  | tuple hx _ ih => exact .tuple hx ih
theorem RelR.mono {ρ ρ' : Ren} (hle : ρ.le ρ') {x x' : Array Value} (h : RelR ρ x x') : RelR ρ' x x' := ⟨h.1, fun i v v' h1 h2 => (h.2 i v v' h1 h2).mono hle⟩

/-! ### worlds -/
/-- A row of cells that stands for another: what is frozen there is frozen here. (And an address that was made a number.) -/
inductive RelO (ρ : Ren) (l : Nat) : Obj → Obj → Prop
  | cells {c c' : Array Value} (e : TypeId) {lo hi lo' hi' : Nat} (hl : l = 0) (hr : RelR ρ c c') (hf : ∀ i, lo' ≤ i → i < hi' → lo ≤ i ∧ i < hi) : RelO ρ l (.cells c e (lo, hi)) (.cells c' e (lo', hi'))
  | number {a a' : Addr} (z : Bool) (hl : l = 0) (h : RelA ρ a a') : RelO ρ l (.number a z) (.number a' z)
  | part {c c' : Array Value} {e' : TypeId} {hi : Nat} {fz : Nat × Nat} (hl : l ≠ 0) (hh : c.size ≤ hi) (hr : ∀ i v, l ≤ i + 1 → c[i]? = some v → ∃ v', c'[i]? = some v' ∧ RelV ρ v v') : RelO ρ l (.cells c ρ.Bg (0, hi)) (.cells c' e' fz)
/-- L: up to which answer the tapes are one. -/
structure RelW (L : Nat) (Sh : Nat → Prop) (ρ : Ren) (w w' : World) : Prop where
  obj : ∀ b b', ρ b b' → ∃ o o', w.heap[b]? = some o ∧ w'.heap[b']? = some o' ∧ RelO ρ (ρ.lo b) o o'
  fn : ∀ b b' c', ρ b b' → ρ b c' → b' = c'
  inj : ∀ b c b', ρ b b' → ρ c b' → b = c ∨ (Sh b ∧ Sh c)
  low0 : ∀ b, w.heap.size ≤ b → ρ.lo b = 0
  tape : ∀ i q, w.drawn + i < L → w.tape (w.drawn + i) q = w'.tape (w'.drawn + i) q
  shared : ∀ b b', Sh b → ρ b b' → ∃ c e hi, w.heap[b]? = some (.cells c e (0, hi)) ∧ c.size ≤ hi
theorem RelO.mono {ρ ρ' : Ren} (hle : ρ.le ρ') {l : Nat} {o o' : Obj} (h : RelO ρ l o o') : RelO ρ' l o o' := by
  cases h with
  | cells e hl hr hf => exact .cells e hl (hr.mono hle) hf
  | number z hl h => exact .number z hl (h.mono hle)
  | part hl hh hr =>
    rw [← hle.bg]
    exact .part hl hh fun i v h1 h2 => let ⟨v', h3, h4⟩ := hr i v h1 h2; ⟨v', h3, h4.mono hle⟩
/-- What may be told of the two blocks' shapes. -/
def ShapeR (ρ : Ren) (l : Nat) (s s' : Option (TypeId × Nat)) : Prop := (l = 0 ∧ s = s') ∨ (l ≠ 0 ∧ ∃ m e' m', s = some (ρ.Bg, m) ∧ s' = some (e', m'))
theorem RelW.lt {L : Nat} {Sh : Nat → Prop} {ρ : Ren} {w w' : World} (h : RelW L Sh ρ w w') {b b' : Nat} (hb : ρ b b') : b < w.heap.size ∧ b' < w'.heap.size := by
  obtain ⟨o, o', h1, h2, _⟩ := h.obj b b' hb
  exact ⟨(Array.getElem?_eq_some_iff.1 h1).1, (Array.getElem?_eq_some_iff.1 h2).1⟩

/-- What a stretch of the other's run leaves as it was; the new blocks come in the same order on both sides. -/
structure Frm (Sh : Nat → Prop) (ρ ρ1 : Ren) (w w1 w' w1' : World) : Prop where
  le : ρ.le ρ1
  new : ∀ b b', ρ1 b b' → ρ b b' ∨ ∃ j, b = w.heap.size + j ∧ b' = w'.heap.size + j
  size : w.heap.size ≤ w1.heap.size
  size' : w'.heap.size ≤ w1'.heap.size
  grow : w1.heap.size + w'.heap.size = w1'.heap.size + w.heap.size
  draws : w.drawn ≤ w1.drawn ∧ w1.drawn + w'.drawn = w1'.drawn + w.drawn
  all : ∀ b', w'.heap.size ≤ b' → b' < w1'.heap.size → ∃ b, ρ1 b b'
  rest : ∀ b', b' < w'.heap.size → (∀ b, ¬ ρ b b') → w1'.heap[b']? = w'.heap[b']?
  os : w1'.os = w'.os
  output : w1'.output = w'.output
  tape : w1'.tape = w'.tape
  gtape : w1.tape = w.tape
  /-- What is shared is not written. -/
  still : ∀ b b', Sh b → ρ b b' → w1'.heap[b']? = w'.heap[b']?
theorem Frm.refl {Sh : Nat → Prop} (ρ : Ren) (w w' : World) : Frm Sh ρ ρ w w w' w' := ⟨.refl _, fun _ _ h => .inl h, Nat.le_refl _, Nat.le_refl _, Nat.add_comm _ _, ⟨Nat.le_refl _, Nat.add_comm _ _⟩, fun _ h1 h2 => absurd h2 (by omega), fun _ _ _ => rfl, rfl, rfl, rfl, rfl, fun _ _ _ _ => rfl⟩
theorem Frm.trans {Sh : Nat → Prop} {ρ ρ1 ρ2 : Ren} {w w1 w2 w' w1' w2' : World} (h : Frm Sh ρ ρ1 w w1 w' w1') (k : Frm Sh ρ1 ρ2 w1 w2 w1' w2') : Frm Sh ρ ρ2 w w2 w' w2' := by
  have g1 := h.grow
  have g2 := k.grow
  have s1 := h.size
  have s2 := k.size
  have d1 := h.draws
  have d2 := k.draws
  refine ⟨h.le.trans k.le, fun b b' hb => ?_, Nat.le_trans h.size k.size, Nat.le_trans h.size' k.size', by omega, ⟨by omega, by omega⟩, fun b' h1 h2 => ?_, fun b' hb hno => ?_, k.os.trans h.os, k.output.trans h.output, k.tape.trans h.tape, k.gtape.trans h.gtape, fun b b' hs hb => (k.still b b' hs (h.le.app hb)).trans (h.still b b' hs hb)⟩
  · rcases k.new b b' hb with h1 | ⟨j, h1, h2⟩
    · exact h.new b b' h1
    · exact .inr ⟨j + (w1.heap.size - w.heap.size), by omega, by omega⟩
  · by_cases hb : b' < w1'.heap.size
    · obtain ⟨b, hb⟩ := h.all b' h1 hb
      exact ⟨b, k.le.app hb⟩
    · exact k.all b' (by omega) h2
  · rw [k.rest b' (Nat.lt_of_lt_of_le hb h.size') (fun b hb1 => (h.new b b' hb1).elim (hno b) (fun ⟨j, x, y⟩ => by omega)), h.rest b' hb hno]
/-- What may be listed: a plain access of a cell that is renamed; a write only where nothing is shared; or the word that there is no room. -/
def EvR (Sh : Nat → Prop) (ρ : Ren) (e : Event) : Prop := (∃ a b, e.loc = .cell a ∧ e.sync = false ∧ ρ b a.block ∧ (e.write = true → ¬ Sh b)) ∨ (∃ r b, e.loc = .obj r ∧ e.write = false ∧ e.sync = false ∧ ρ b r) ∨ e.loc = .mark .noRoom
theorem EvR.mono {Sh : Nat → Prop} {ρ ρ' : Ren} (hle : ρ.le ρ') {e : Event} (h : EvR Sh ρ e) : EvR Sh ρ' e := by
  rcases h with ⟨a, b, h1, h2, h3, h4⟩ | ⟨r, b, h1, h2, h3, h4⟩ | h
  · exact .inl ⟨a, b, h1, h2, hle.app h3, h4⟩
  · exact .inr (.inl ⟨r, b, h1, h2, h3, hle.app h4⟩)
  · exact .inr (.inr h)

/-- What is asked of the renaming. -/
structure Fits (P : Program) (ρ : Ren) : Prop where
  size : ρ.G = P.globals.size
  bog : P.info? ρ.Bg = none
theorem Fits.mono {P : Program} {ρ ρ' : Ren} (h : Fits P ρ) (hle : ρ.le ρ') : Fits P ρ' := ⟨hle.1.trans h.size, by rw [hle.bg]; exact h.bog⟩

/-! ### pieces of the semantics -/
/-- Two programs that part in their functions alone. -/
class Kin (Pg P : Program) : Prop where
  tables : Pg.toTables = P.toTables
instance kin_self (P : Program) : Kin P P := ⟨rfl⟩
/-- An end that is a panic, or the end of the run. -/
def tame : Halt → Bool
  | .panic _ | .stuck _ => true
  | .unsupported (.initOrder _) => false
  | .unsupported _ => true
  | _ => false
def TameS (P : Program) {α : Type} (s : Sem α) : Prop := ∀ w h w1, s.run P w = .halt h w1 → tame h = true
/-- It never ends well. -/
def Dead (P : Program) {α : Type} (s : Sem α) : Prop := (∀ w a w1, s.run P w ≠ .ok a w1) ∧ TameS P s
/-- The second does what the first does, up to the renaming, wherever the first ends well. -/
inductive SimS (Pg P : Program) [Kin Pg P] {α β : Type} (Q : Ren → α → β → Prop) : Ren → Sem α → Sem β → Prop
  | dead {ρ : Ren} {s : Sem α} {s' : Sem β} (h : Dead Pg s) : SimS Pg P Q ρ s s'
  | pure {ρ : Ren} {a : α} {b : β} (h : Q ρ a b) : SimS Pg P Q ρ (.pure a) (.pure b)
  | load {ρ : Ren} {a a' : Addr} {k : Value → Sem α} {k' : Value → Sem β} (ha : RelA ρ a a') (h : ∀ v v', RelV ρ v v' → SimS Pg P Q ρ (k v) (k' v')) : SimS Pg P Q ρ (.load .plain a k) (.load .plain a' k')
  | store {ρ : Ren} {a a' : Addr} {v v' : Value} {k : Sem α} {k' : Sem β} (ha : RelA ρ a a') (hv : RelV ρ v v') (h : SimS Pg P Q ρ k k') : SimS Pg P Q ρ (.store .plain a v k) (.store .plain a' v' k')
  | new {ρ : Ren} {o o' : Obj} {k : Nat → Sem α} {k' : Nat → Sem β} (ho : RelO ρ 0 o o') (h : ∀ (ρ' : Ren) r r', ρ.le ρ' → ρ' r r' → ρ'.G ≤ r → ρ'.lo r = 0 → SimS Pg P Q ρ' (k r) (k' r')) : SimS Pg P Q ρ (.new o k) (.new o' k')
  | shape {ρ : Ren} {r r' : Nat} {k : Option (TypeId × Nat) → Sem α} {k' : Option (TypeId × Nat) → Sem β} (hr : ρ r r') (h : ∀ s s', ShapeR ρ (ρ.lo r) s s' → SimS Pg P Q ρ (k s) (k' s')) : SimS Pg P Q ρ (.shape r k) (.shape r' k')
  | getObj {ρ : Ren} {r r' : Nat} {k : Obj → Sem α} {k' : Obj → Sem β} (hr : ρ r r') (h : ∀ a a' l, RelA ρ a a' → SimS Pg P Q ρ (k (.number a l)) (k' (.number a' l))) : SimS Pg P Q ρ (.getObj r k) (.getObj r' k')
  | choose {ρ : Ren} (q : Question) {k : Nat → Sem α} {k' : Nat → Sem β} (h : ∀ n, SimS Pg P Q ρ (k n) (k' n)) : SimS Pg P Q ρ (.choose q k) (.choose q k')
  | program {ρ : Ren} {k : Program → Sem α} {k' : Program → Sem β} (h : SimS Pg P Q ρ (k Pg) (k' P)) : SimS Pg P Q ρ (.program k) (.program k')
  | room {ρ : Ren} {k : Sem α} {k' : Sem β} (h : SimS Pg P Q ρ k k') : SimS Pg P Q ρ (.mark .noRoom k) (.mark .noRoom k')

theorem SimS.mono {Pg P : Program} [Kin Pg P] {α β : Type} {Q Q' : Ren → α → β → Prop} {ρ : Ren} {s : Sem α} {s' : Sem β} (h : SimS Pg P Q ρ s s') (hq : ∀ ρ' a b, ρ.le ρ' → Q ρ' a b → Q' ρ' a b) : SimS Pg P Q' ρ s s' := by
  induction h with
  | dead h => exact .dead h
  | pure h => exact .pure (hq _ _ _ (.refl _) h)
  | load ha _ ih => exact .load ha fun v v' hv => ih v v' hv hq
  | store ha hv _ ih => exact .store ha hv (ih hq)
  | new ho _ ih => exact .new ho fun ρ' r r' hle hr hG h0 => ih ρ' r r' hle hr hG h0 fun ρ2 a b h2 => hq ρ2 a b (hle.trans h2)
  | shape hr _ ih => exact .shape hr fun s s' hs => ih s s' hs hq
  | getObj hr _ ih => exact .getObj hr fun a a' l h => ih a a' l h hq
  | choose q _ ih => exact .choose q fun n => ih n hq
  | program _ ih => exact .program (ih hq)
  | room _ ih => exact .room (ih hq)

theorem run_bind_ok {α γ : Type} {p : Program} {s : Sem α} {f : α → Sem γ} {w w1 : World} {c : γ} (h : (s.bind f).run p w = .ok c w1) : ∃ a w0, s.run p w = .ok a w0 := by
  induction s generalizing w with
  | pure a => exact ⟨a, w, rfl⟩
  | load m a k ih =>
    simp only [Sem.bind, Sem.run] at h ⊢
    split at h
    · exact ih _ h
    · split at h
      · exact ih _ h
      · cases h
  | store m a v k ih =>
    cases v <;> simp only [Sem.bind, Sem.run] at h ⊢
    all_goals first
      | (cases h; done)
      | (split at h
         · split at h
           · cases h
           · rename_i h1; simp only [h1]; exact ih h
         · split at h
           · exact ih h
           · cases h)
  | new o k ih => exact ih _ h
  | shape r k ih => exact ih _ h
  | freeze a n k ih => exact ih h
  | frozen a k ih => exact ih _ h
  | getObj r k ih =>
    simp only [Sem.bind, Sem.run] at h ⊢
    split at h
    · cases h
    · exact ih _ h
    · cases h
  | setObj r o k ih =>
    simp only [Sem.bind, Sem.run] at h ⊢
    split at h
    · cases h
    · exact ih h
    · cases h
  | choose q k ih =>
    simp only [Sem.bind, Sem.run] at h ⊢
    by_cases hq : q.forced = true
    · rw [if_pos hq] at h ⊢
      exact ih _ h
    · rw [if_neg hq] at h ⊢
      exact ih _ h
  | sys c k ih => exact ih _ h
  | program k ih => exact ih _ h
  | mark m k ih => exact ih h
  | halt x => cases h

theorem run_bind_halt {α γ : Type} {p : Program} {s : Sem α} {f : α → Sem γ} {w w1 : World} {x : Halt} (h : (s.bind f).run p w = .halt x w1) : s.run p w = .halt x w1 ∨ ∃ a w0, s.run p w = .ok a w0 ∧ (f a).run p w0 = .halt x w1 := by
  induction s generalizing w with
  | pure a => exact .inr ⟨a, w, rfl, h⟩
  | load m a k ih =>
    simp only [Sem.bind, Sem.run] at h ⊢
    split at h
    · exact ih _ h
    · split at h
      · exact ih _ h
      · cases h; exact .inl rfl
  | store m a v k ih =>
    cases v <;> simp only [Sem.bind, Sem.run] at h ⊢
    all_goals first
      | (cases h; exact .inl rfl)
      | (split at h
         · split at h
           · rename_i h1; simp only [h1, if_true]; cases h; exact .inl rfl
           · rename_i h1; simp only [h1]; exact ih h
         · split at h
           · exact ih h
           · cases h; exact .inl rfl)
  | new o k ih => exact ih _ h
  | shape r k ih => exact ih _ h
  | freeze a n k ih => exact ih h
  | frozen a k ih => exact ih _ h
  | getObj r k ih =>
    simp only [Sem.bind, Sem.run] at h ⊢
    split at h
    · cases h; exact .inl rfl
    · exact ih _ h
    · cases h; exact .inl rfl
  | setObj r o k ih =>
    simp only [Sem.bind, Sem.run] at h ⊢
    split at h
    · cases h; exact .inl rfl
    · exact ih h
    · cases h; exact .inl rfl
  | choose q k ih =>
    simp only [Sem.bind, Sem.run] at h ⊢
    by_cases hq : q.forced = true
    · rw [if_pos hq] at h ⊢
      exact ih _ h
    · rw [if_neg hq] at h ⊢
      exact ih _ h
  | sys c k ih => exact ih _ h
  | program k ih => exact ih _ h
  | mark m k ih => exact ih h
  | halt y => cases h; exact .inl rfl

theorem SimS.bind {Pg P : Program} [Kin Pg P] {α β γ δ : Type} {Q : Ren → α → β → Prop} {Q' : Ren → γ → δ → Prop} {ρ : Ren} {s : Sem α} {s' : Sem β} {f : α → Sem γ} {f' : β → Sem δ} (h : SimS Pg P Q ρ s s') (hf : ∀ ρ' a b, ρ.le ρ' → Q ρ' a b → SimS Pg P Q' ρ' (f a) (f' b)) : SimS Pg P Q' ρ (s.bind f) (s'.bind f') := by
  induction h with
  | dead h =>
    refine .dead ⟨fun w c w1 hc => ?_, fun w x w1 hc => ?_⟩
    · obtain ⟨a, w0, ha⟩ := run_bind_ok hc
      exact h.1 w a w0 ha
    · rcases run_bind_halt hc with hx | ⟨a, w0, ha, _⟩
      · exact h.2 w x w1 hx
      · exact absurd ha (h.1 w a w0)
  | pure h => exact hf _ _ _ (.refl _) h
  | load ha _ ih => exact .load ha fun v v' hv => ih v v' hv hf
  | store ha hv _ ih => exact .store ha hv (ih hf)
  | new ho _ ih => exact .new ho fun ρ' r r' hle hr hG h0 => ih ρ' r r' hle hr hG h0 fun ρ2 a b h2 => hf ρ2 a b (hle.trans h2)
  | shape hr _ ih => exact .shape hr fun s s' hs => ih s s' hs hf
  | getObj hr _ ih => exact .getObj hr fun a a' l h => ih a a' l h hf
  | choose q _ ih => exact .choose q fun n => ih n hf
  | program _ ih => exact .program (ih hf)
  | room _ ih => exact .room (ih hf)

end Go.Proofs.YtepbidaoloplbaaDoor

namespace Go.Proofs.YtepbidaoloplbaaDoor
open Go

theorem frozen_of {w : World} {b i : Nat} {c : Array Value} {e : TypeId} {lo hi : Nat} (h : w.heap[b]? = some (.cells c e (lo, hi))) (s : Option Nat) : w.frozen? ⟨b, i, s⟩ = (decide (lo ≤ i) && decide (i < hi)) := by
  simp [World.frozen?, h]
theorem cell_of {w : World} {b i : Nat} {c : Array Value} {e : TypeId} {fz : Nat × Nat} (h : w.heap[b]? = some (.cells c e fz)) (s : Option Nat) : w.cell? ⟨b, i, s⟩ = if s.isSome then none else c[i]? := by
  simp [World.cell?, h]
/-- A cell of the one world has its like in the other. -/
theorem noCell_of {w : World} {ρ : Ren} {l : Nat} {o o' : Obj} {a : Addr} (h : w.heap[a.block]? = some o) (ho : RelO ρ l o o') (m : String) : w.noCell a m = .stuck m := by
  cases ho <;> simp [World.noCell, h]
theorem RelW.cell {L : Nat} {Sh : Nat → Prop} {ρ : Ren} {w w' : World} (h : RelW L Sh ρ w w') {a a' : Addr} (ha : RelA ρ a a') : (∀ v, w.cell? a = some v → ∃ v', w'.cell? a' = some v' ∧ RelV ρ v v') ∧ (w.cell? a = none → ∀ p m, (∃ x, w.farLoad p a m = .error x ∧ tame x = true) ∧ ∀ v, ∃ x, w.farStore p a v m = .error x ∧ tame x = true) := by
  obtain ⟨o, o', h1, h2, ho⟩ := h.obj _ _ ha.1
  obtain ⟨b, i, s⟩ := a
  obtain ⟨b', i', s'⟩ := a'
  obtain ⟨hb, rfl, rfl, _, hlo⟩ := ha
  simp only at h1 h2 hlo
  have ho' := ho
  cases ho with
  | number l _ hn =>
    refine ⟨fun v hv => ?_, fun _ p m => ⟨⟨_, by simp only [World.farLoad, h1]; rfl, by rw [noCell_of h1 ho']; rfl⟩, fun v => ⟨_, by simp only [World.farStore, h1]; rfl, by rw [noCell_of h1 ho']; rfl⟩⟩⟩
    simp [World.cell?, h1] at hv
  | @part c c' e' hi fz hl hh hr =>
    refine ⟨fun v hv => ?_, fun _ p m => ⟨⟨_, by simp only [World.farLoad, h1]; rfl, by rw [noCell_of h1 ho']; rfl⟩, fun v => ⟨_, by simp only [World.farStore, h1]; rfl, by rw [noCell_of h1 ho']; rfl⟩⟩⟩
    rw [cell_of h1] at hv
    rw [cell_of h2]
    split at hv
    · cases hv
    · rename_i hs
      rw [if_neg hs]
      exact hr i' v hlo hv
  | @cells c c' e lo hi lo' hi' _ hr hf =>
    refine ⟨fun v hv => ?_, fun _ p m => ⟨⟨_, by simp only [World.farLoad, h1]; rfl, by rw [noCell_of h1 ho']; rfl⟩, fun v => ⟨_, by simp only [World.farStore, h1]; rfl, by rw [noCell_of h1 ho']; rfl⟩⟩⟩
    rw [cell_of h1] at hv
    rw [cell_of h2]
    split at hv
    · cases hv
    · rename_i hs
      rw [if_neg hs]
      have hi : i' < c.size := by
        rcases Nat.lt_or_ge i' c.size with hlt | hge
        · exact hlt
        · rw [Array.getElem?_eq_none hge] at hv; cases hv
      have hi2 : i' < c'.size := by rw [← hr.1]; exact hi
      exact ⟨c'[i'], Array.getElem?_eq_getElem hi2, hr.2 i' v _ hv (Array.getElem?_eq_getElem hi2)⟩
theorem RelW.frozen {L : Nat} {Sh : Nat → Prop} {ρ : Ren} {w w' : World} (h : RelW L Sh ρ w w') {a a' : Addr} (ha : RelA ρ a a') (hc : ∃ v0, w.cell? a = some v0) (hf : w.frozen? a = false) : w'.frozen? a' = false ∧ ¬ Sh a.block := by
  obtain ⟨o, o', h1, h2, ho⟩ := h.obj _ _ ha.1
  obtain ⟨b, i, s⟩ := a
  obtain ⟨b', i', s'⟩ := a'
  have hsh := fun hs : Sh b => h.shared b b' hs ha.1
  obtain ⟨hb, rfl, rfl, _⟩ := ha
  simp only at h1 h2
  cases ho with
  | @part c c' e' hi fz hl hh hr =>
    exfalso
    rw [frozen_of h1] at hf
    obtain ⟨v0, hv0⟩ := hc
    rw [cell_of h1] at hv0
    split at hv0
    · cases hv0
    · have hlt : i' < c.size := by
        rcases Nat.lt_or_ge i' c.size with hlt | hge
        · exact hlt
        · rw [Array.getElem?_eq_none hge] at hv0; cases hv0
      simp at hf
      omega
  | number l _ hn =>
    refine ⟨by simp [World.frozen?, h2], fun hs => ?_⟩
    obtain ⟨c, e, hi, hx, _⟩ := hsh hs
    rw [h1] at hx
    cases hx
  | @cells c c' e lo hi lo' hi' _ hr hfz =>
    rw [frozen_of h1] at hf
    refine ⟨?_, fun hs => ?_⟩
    · rw [frozen_of h2]
      cases hx : (decide (lo' ≤ i') && decide (i' < hi')) with
      | false => rfl
      | true =>
        simp only [Bool.and_eq_true, decide_eq_true_eq] at hx
        have := hfz i' hx.1 hx.2
        simp [this.1, this.2] at hf
    · obtain ⟨c1, e1, hi1, hx, hle⟩ := hsh hs
      rw [h1] at hx
      cases hx
      obtain ⟨v0, hv0⟩ := hc
      rw [cell_of h1] at hv0
      split at hv0
      · cases hv0
      · have hlt : i' < c.size := by
          rcases Nat.lt_or_ge i' c.size with hlt | hge
          · exact hlt
          · rw [Array.getElem?_eq_none hge] at hv0; cases hv0
        simp at hf
        omega
theorem heap_setCell (w : World) (a : Addr) (v : Value) (b : Nat) : (w.setCell a v).heap[b]? = if a.block = b then (w.heap[b]?).map (fun o => match o with | .cells c elem frozen => .cells (if a.spot.isSome then c else c.setIfInBounds a.off v) elem frozen | o => o) else w.heap[b]? := by
  simp only [World.setCell, Array.getElem?_modify]
  split
  · cases w.heap[b]? with
    | none => rfl
    | some o => cases o <;> rfl
  · rfl
theorem RelR.set {ρ : Ren} {c c' : Array Value} (h : RelR ρ c c') (i : Nat) {v v' : Value} (hv : RelV ρ v v') : RelR ρ (c.setIfInBounds i v) (c'.setIfInBounds i v') := by
  refine ⟨by simpa using h.1, fun j x x' h1 h2 => ?_⟩
  rw [Array.getElem?_setIfInBounds] at h1 h2
  by_cases e : i = j
  · subst e
    by_cases hs : i < c.size
    · have hs' : i < c'.size := by rw [← h.1]; exact hs
      simp [hs] at h1
      simp [hs'] at h2
      subst h1 h2
      exact hv
    · simp [hs] at h1
  · simp only [e, if_false] at h1 h2
    exact h.2 j x x' h1 h2
/-- A store on both sides. -/
theorem RelW.store {L : Nat} {Sh : Nat → Prop} {ρ : Ren} {w w' : World} (h : RelW L Sh ρ w w') {a a' : Addr} (ha : RelA ρ a a') {v v' : Value} (hv : RelV ρ v v') (hc : ∃ v0, w.cell? a = some v0) (hfz : w.frozen? a = false) : RelW L Sh ρ (w.setCell a v) (w'.setCell a' v') ∧ Frm Sh ρ ρ w (w.setCell a v) w' (w'.setCell a' v') := by
  have hnsh := (h.frozen ha hc hfz).2
  have e2 : a'.off = a.off := ha.2.1
  have e3 : a'.spot = a.spot := ha.2.2.1
  refine ⟨⟨fun b b' hb => ?_, h.fn, h.inj, fun b hb => h.low0 b (by simpa [World.setCell] using hb), h.tape, fun b b' hs hb => ?_⟩, ⟨.refl _, fun _ _ k => .inl k, by simp [World.setCell], by simp [World.setCell], by simp [World.setCell]; omega, ⟨Nat.le_refl _, Nat.add_comm _ _⟩, fun b' h1 h2 => absurd h2 (by simp [World.setCell]; omega), fun b' hb hno => ?_, rfl, rfl, rfl, rfl, fun b b' hs hb => ?_⟩⟩
  · obtain ⟨o, o', h1, h2, ho⟩ := h.obj b b' hb
    rw [heap_setCell, heap_setCell, h1, h2]
    by_cases hab : a.block = b
    · have hab' : a'.block = b' := h.fn b _ _ (hab ▸ ha.1) hb
      rw [if_pos hab, if_pos hab']
      cases ho with
      | number l hl hn => exact ⟨_, _, rfl, rfl, .number l hl hn⟩
      | @part c c' e' hi fz hl hh hr =>
        exfalso
        obtain ⟨b0, i0, s0⟩ := a
        simp only at hab
        subst hab
        rw [frozen_of h1] at hfz
        obtain ⟨v0, hv0⟩ := hc
        rw [cell_of h1] at hv0
        split at hv0
        · cases hv0
        · have hlt : i0 < c.size := by
            rcases Nat.lt_or_ge i0 c.size with hlt | hge
            · exact hlt
            · rw [Array.getElem?_eq_none hge] at hv0; cases hv0
          simp at hfz
          omega
      | cells e hl hr hf =>
        refine ⟨_, _, rfl, rfl, .cells e hl ?_ hf⟩
        rw [e3, e2]
        split
        · exact hr
        · exact hr.set _ hv
    · have hab' : a'.block ≠ b' := fun e => (h.inj _ _ b' (e ▸ ha.1) hb).elim hab fun x => hnsh x.1
      rw [if_neg hab, if_neg hab']
      exact ⟨o, o', rfl, rfl, ho⟩
  · obtain ⟨c, e, hi, h1, hle⟩ := h.shared b b' hs hb
    rw [heap_setCell, h1]
    by_cases hab : a.block = b
    · rw [if_pos hab]
      exact ⟨_, e, hi, rfl, by split <;> simpa using hle⟩
    · rw [if_neg hab]
      exact ⟨c, e, hi, rfl, hle⟩
  · rw [heap_setCell, if_neg]
    intro e
    exact hno a.block (e ▸ ha.1)
  · rw [heap_setCell, if_neg]
    intro e
    rcases h.inj a.block b b' (e ▸ ha.1) hb with x | x
    · exact hnsh (by rw [x]; exact hs)
    · exact hnsh x.1
/-- A new block on both sides. -/
def renNew (ρ : Ren) (n n' : Nat) : Ren := ⟨fun b b' => ρ b b' ∨ (b = n ∧ b' = n'), ρ.G, ρ.A, ρ.lo, ρ.glo, ρ.Bg, ρ.D⟩
theorem RelW.new {L : Nat} {Sh : Nat → Prop} {ρ : Ren} {w w' : World} (h : RelW L Sh ρ w w') (hSh : ∀ b, Sh b → b < w.heap.size) {o o' : Obj} (ho : RelO ρ 0 o o') :
    RelW L Sh (renNew ρ w.heap.size w'.heap.size) { w with heap := w.heap.push o } { w' with heap := w'.heap.push o' } ∧ Frm Sh ρ (renNew ρ w.heap.size w'.heap.size) w { w with heap := w.heap.push o } w' { w' with heap := w'.heap.push o' } := by
  have hle : ρ.le (renNew ρ w.heap.size w'.heap.size) := ⟨rfl, rfl, fun _ _ k => .inl k, rfl, rfl, rfl⟩
  refine ⟨⟨fun b b' hb => ?_, fun b b' c' h1 h2 => ?_, fun b c b' h1 h2 => ?_, fun b hb => h.low0 b (by simp at hb; omega), h.tape, fun b b' hs hb => ?_⟩, ⟨hle, fun b b' k => ?_, by simp, by simp, by simp; omega, ⟨Nat.le_refl _, Nat.add_comm _ _⟩, fun b' h1 h2 => ?_, fun b' hb _ => ?_, rfl, rfl, rfl, rfl, fun b b' hs hb => ?_⟩⟩
  · rcases hb with hb | ⟨rfl, rfl⟩
    · obtain ⟨x, x', h1, h2, hx⟩ := h.obj b b' hb
      have l := h.lt hb
      exact ⟨x, x', by simp [Array.getElem?_push, Nat.ne_of_lt l.1, h1], by simp [Array.getElem?_push, Nat.ne_of_lt l.2, h2], hx.mono hle⟩
    · refine ⟨o, o', by simp, by simp, ?_⟩
      have e0 : (renNew ρ w.heap.size w'.heap.size).lo w.heap.size = 0 := h.low0 _ (Nat.le_refl _)
      rw [e0]
      exact ho.mono hle
  · rcases h1 with h1 | ⟨rfl, rfl⟩
    · rcases h2 with h2 | ⟨rfl, rfl⟩
      · exact h.fn _ _ _ h1 h2
      · exact absurd (h.lt h1).1 (Nat.lt_irrefl _)
    · rcases h2 with h2 | ⟨_, rfl⟩
      · exact absurd (h.lt h2).1 (Nat.lt_irrefl _)
      · rfl
  · rcases h1 with h1 | ⟨rfl, rfl⟩
    · rcases h2 with h2 | ⟨rfl, rfl⟩
      · exact h.inj _ _ _ h1 h2
      · exact absurd (h.lt h1).2 (Nat.lt_irrefl _)
    · rcases h2 with h2 | ⟨rfl, _⟩
      · exact absurd (h.lt h2).2 (Nat.lt_irrefl _)
      · exact .inl rfl
  · rcases hb with hb | ⟨rfl, rfl⟩
    · have l := h.lt hb
      obtain ⟨c, e, hi, hx, hle⟩ := h.shared b b' hs hb
      exact ⟨c, e, hi, by simpa [Array.getElem?_push, Nat.ne_of_lt l.1] using hx, hle⟩
    · exact absurd (hSh _ hs) (Nat.lt_irrefl _)
  · rcases k with k | ⟨rfl, rfl⟩
    · exact .inl k
    · exact .inr ⟨0, rfl, rfl⟩
  · simp at h2
    exact ⟨w.heap.size, .inr ⟨rfl, by omega⟩⟩
  · simp [Array.getElem?_push, Nat.ne_of_lt hb]
  · simp [Array.getElem?_push, Nat.ne_of_lt (h.lt hb).2]
theorem RelW.shapes {L : Nat} {Sh : Nat → Prop} {ρ : Ren} {w w' : World} (h : RelW L Sh ρ w w') {r r' : Nat} (hr : ρ r r') : ShapeR ρ (ρ.lo r) (w.shape? r) (w'.shape? r') := by
  obtain ⟨o, o', h1, h2, ho⟩ := h.obj _ _ hr
  cases ho with
  | number l hl hn => exact .inl ⟨hl, by simp [World.shape?, h1, h2]⟩
  | cells e hl hc hf => exact .inl ⟨hl, by simp [World.shape?, h1, h2, hc.1]⟩
  | part hl hh hc => exact .inr ⟨hl, _, _, _, by simp only [World.shape?, h1]; rfl, by simp only [World.shape?, h2]; rfl⟩
theorem RelW.drew {L : Nat} {Sh : Nat → Prop} {ρ : Ren} {w w' : World} (h : RelW L Sh ρ w w') : RelW L Sh ρ { w with drawn := w.drawn + 1 } { w' with drawn := w'.drawn + 1 } ∧ Frm Sh ρ ρ w { w with drawn := w.drawn + 1 } w' { w' with drawn := w'.drawn + 1 } := by
  refine ⟨⟨h.obj, h.fn, h.inj, h.low0, fun i q hi => ?_, h.shared⟩, ⟨.refl _, fun _ _ k => .inl k, Nat.le_refl _, Nat.le_refl _, Nat.add_comm _ _, ⟨by show w.drawn ≤ w.drawn + 1; omega, by show w.drawn + 1 + w'.drawn = w'.drawn + 1 + w.drawn; omega⟩, fun b' h1 h2 => absurd h2 (by show ¬ b' < w'.heap.size; omega), fun _ _ _ => rfl, rfl, rfl, rfl, rfl, fun _ _ _ _ => rfl⟩⟩
  have := h.tape (1 + i) q (by have : w.drawn + 1 + i < L := hi; omega)
  simpa [Nat.add_assoc] using this
/-- Answers are taken one behind the other. -/
theorem SimS.grows {α β : Type} {Q : Ren → α → β → Prop} {L : Nat} {Sh : Nat → Prop} {p p' : Program} [Kin p p'] {ρ : Ren} {s : Sem α} {s' : Sem β} (h : SimS p p' Q ρ s s') : ∀ {w w' w1 : World} {es es1 : Array Event} {a : α}, RelW L Sh ρ w w' → (∀ b, Sh b → b < w.heap.size) → ρ.G ≤ w.heap.size → s.runT p w es = (.ok a w1, es1) → w.drawn ≤ w1.drawn := by
  induction h with
  | dead h =>
    intro w w' w1 es es1 a hw hsh hG hr
    exact absurd (by rw [← Sem.runT_fst p _ w es, hr]) (h.1 w a w1)
  | pure h =>
    intro w w' w1 es es1 a hw hsh hG hr
    simp only [Sem.runT, Prod.mk.injEq, Result.ok.injEq] at hr
    obtain ⟨⟨rfl, rfl⟩, rfl⟩ := hr
    exact Nat.le_refl _
  | load ha h ih =>
    intro w w' w1 es es1 x hw hsh hG hr
    have hc := hw.cell ha
    simp only [Sem.runT] at hr
    split at hr
    · rename_i v hv
      obtain ⟨v', hv', hrel⟩ := hc.1 v hv
      exact ih v v' hrel hw hsh hG hr
    · rename_i hn
      obtain ⟨y, hy, _⟩ := (hc.2 hn p (Mode.plain == .atomic)).1
      rw [hy] at hr
      cases hr
  | @store ρ a a' v v' k k' ha hv h ih =>
    intro w w' w1 es es1 x hw hsh hG hr
    have hc := hw.cell ha
    have hst := fun hx hy => hw.store ha hv hx hy
    cases v <;> simp only [Sem.runT] at hr
    all_goals first
      | (cases hr; done)
      | (split at hr
         · rename_i v0 hv0
           split at hr
           · cases hr
           · rename_i hfz
             have q := ih (hst ⟨v0, hv0⟩ (by simpa using hfz)).1 (fun b hb => by simpa [World.setCell] using hsh b hb) (by simpa [World.setCell] using hG) hr
             exact q
         · rename_i hn
           obtain ⟨y, hy, _⟩ := (hc.2 hn p (Mode.plain == .atomic)).2 _
           rw [hy] at hr
           cases hr)
  | @new ρ o o' k k' ho h ih =>
    intro w w' w1 es es1 x hw hsh hG hr
    have hn := hw.new hsh ho
    have q := ih _ w.heap.size w'.heap.size hn.2.le (.inr ⟨rfl, rfl⟩) hG (hw.low0 _ (Nat.le_refl _)) hn.1 (fun b hb => by have := hsh b hb; simp; omega) (by show ρ.G ≤ _; simp; omega) hr
    exact q
  | shape hr' h ih => intro w w' w1 es es1 x hw hsh hG hr; exact ih _ _ (hw.shapes hr') hw hsh hG hr
  | @getObj ρ r r' k k' hr' h ih =>
    intro w w' w1 es es1 x hw hsh hG hr
    obtain ⟨o, o', h1, h2, ho⟩ := hw.obj _ _ hr'
    cases ho with
    | cells e _ hc hf =>
      simp only [Sem.runT, h1] at hr
      cases hr
    | part hl hh hc =>
      simp only [Sem.runT, h1] at hr
      cases hr
    | @number a a' l _ hn =>
      simp only [Sem.runT, h1] at hr
      exact ih a a' l hn hw hsh hG hr
  | choose q h ih =>
    intro w w' w1 es es1 x hw hsh hG hr
    simp only [Sem.runT] at hr
    by_cases hq : q.forced = true
    · rw [if_pos hq] at hr
      exact ih _ hw hsh hG hr
    · rw [if_neg hq] at hr
      have := ih _ hw.drew.1 hsh hG hr
      exact Nat.le_trans (Nat.le_succ _) this
  | program h ih => intro w w' w1 es es1 x hw hsh hG hr; exact ih hw hsh hG hr
  | room h ih => intro w w' w1 es es1 x hw hsh hG hr; exact ih hw hsh hG hr

/-- ████ WHAT ENDS WELL HERE ENDS WELL, AND ALIKE, THERE. ████ -/
theorem SimS.runs {α β : Type} {Q : Ren → α → β → Prop} {L : Nat} {Sh : Nat → Prop} {p p' : Program} [Kin p p'] {ρ : Ren} {s : Sem α} {s' : Sem β} (h : SimS p p' Q ρ s s') : ∀ {w w' w1 : World} {es es1 : Array Event} {a : α} (es' : Array Event), RelW L Sh ρ w w' → (∀ b, Sh b → b < w.heap.size) → ρ.G ≤ w.heap.size → s.runT p w es = (.ok a w1, es1) → w1.drawn ≤ L →
    ∃ ρ1 b w1' more, s'.runT p' w' es' = (.ok b w1', es' ++ more) ∧ Q ρ1 a b ∧ RelW L Sh ρ1 w1 w1' ∧ Frm Sh ρ ρ1 w w1 w' w1' ∧ ∀ e ∈ more, EvR Sh ρ1 e := by
  induction h with
  | dead h =>
    intro w w' w1 es es1 a es' hw hsh hG hr hL
    exact absurd (by rw [← Sem.runT_fst p _ w es, hr]) (h.1 w a w1)
  | pure h =>
    intro w w' w1 es es1 a es' hw hsh hG hr hL
    simp only [Sem.runT, Prod.mk.injEq, Result.ok.injEq] at hr
    obtain ⟨⟨rfl, rfl⟩, rfl⟩ := hr
    exact ⟨_, _, w', #[], by simp [Sem.runT], h, hw, .refl _ _ _, by simp⟩
  | @load ρ a a' k k' ha h ih =>
    intro w w' w1 es es1 x es' hw hsh hG hr hL
    have hc := hw.cell ha
    simp only [Sem.runT] at hr
    split at hr
    · rename_i v hv
      obtain ⟨v', hv', hrel⟩ := hc.1 v hv
      obtain ⟨ρ1, b, w1', more, h1, h2, h3, h4, h5⟩ := ih v v' hrel (es'.push ⟨.cell a', false, false⟩) hw hsh hG hr hL
      refine ⟨ρ1, b, w1', #[⟨.cell a', false, false⟩] ++ more, ?_, h2, h3, h4, fun e he => ?_⟩
      · simp only [Sem.runT, hv']
        rw [← Array.append_assoc]
        exact h1
      · rcases Array.mem_append.1 he with he | he
        · simp only [Array.mem_singleton] at he
          subst he
          exact .inl ⟨_, _, rfl, rfl, h4.le.app ha.1, fun k => by cases k⟩
        · exact h5 e he
    · rename_i hn
      obtain ⟨y, hy, _⟩ := (hc.2 hn p (Mode.plain == .atomic)).1
      rw [hy] at hr
      cases hr
  | @store ρ a a' v v' k k' ha hv h ih =>
    intro w w' w1 es es1 x es' hw hsh hG hr hL
    have hc := hw.cell ha
    have hst := fun hx hy => hw.store ha hv hx hy
    have key : ∀ (y : Value) (hy : v = y) (hone : (∀ c, y ≠ .agg c) ∧ ∀ c, y ≠ .tuple c), ∃ v0, w.cell? a = some v0 ∧ w.frozen? a = false ∧ k.runT p (w.setCell a v) (es.push ⟨.cell a, true, false⟩) = (.ok x w1, es1) := by
      rintro y rfl hone
      cases v <;> first
        | exact absurd rfl (hone.1 _)
        | exact absurd rfl (hone.2 _)
        | (simp only [Sem.runT] at hr
           split at hr
           · rename_i v0 hv0
             split at hr
             · cases hr
             · rename_i hfz
               exact ⟨v0, hv0, by simpa using hfz, hr⟩
           · rename_i hn
             obtain ⟨y, hy, _⟩ := (hc.2 hn p (Mode.plain == .atomic)).2 _
             rw [hy] at hr
             cases hr)
    have hone : (∀ c, v ≠ .agg c) ∧ ∀ c, v ≠ .tuple c := by
      refine ⟨fun c e => ?_, fun c e => ?_⟩ <;> · subst e; simp [Sem.runT] at hr
    obtain ⟨v0, hv0, hfz, hrun⟩ := key v rfl hone
    obtain ⟨v0', hv0', _⟩ := hc.1 v0 hv0
    obtain ⟨hfz', hnsh⟩ := hw.frozen ha ⟨v0, hv0⟩ hfz
    obtain ⟨ρ1, b, w1', more, h1, h2, h3, h4, h5⟩ := ih (es'.push ⟨.cell a', true, false⟩) (hst ⟨v0, hv0⟩ hfz).1 (fun b hb => by simpa [World.setCell] using hsh b hb) (by simpa [World.setCell] using hG) hrun hL
    refine ⟨ρ1, b, w1', #[⟨.cell a', true, false⟩] ++ more, ?_, h2, h3, (hst ⟨v0, hv0⟩ hfz).2.trans h4, fun e he => ?_⟩
    · rw [← Array.append_assoc]
      have hone' : (∀ c, v' ≠ .agg c) ∧ ∀ c, v' ≠ .tuple c := by
        refine ⟨fun c e => ?_, fun c e => ?_⟩ <;> · subst e; cases hv; first | exact hone.1 _ rfl | exact hone.2 _ rfl
      cases v' <;> first
        | exact absurd rfl (hone'.1 _)
        | exact absurd rfl (hone'.2 _)
        | (simp only [Sem.runT, hv0', hfz']; exact h1)
    · rcases Array.mem_append.1 he with he | he
      · simp only [Array.mem_singleton] at he
        subst he
        exact .inl ⟨_, _, rfl, rfl, h4.le.app ha.1, fun _ => hnsh⟩
      · exact h5 e he
  | @new ρ o o' k k' ho h ih =>
    intro w w' w1 es es1 x es' hw hsh hG hr hL
    have hn := hw.new hsh ho
    obtain ⟨ρ1, b, w1', more, h1, h2, h3, h4, h5⟩ := ih _ w.heap.size w'.heap.size hn.2.le (.inr ⟨rfl, rfl⟩) hG (hw.low0 _ (Nat.le_refl _)) es' hn.1 (fun b hb => by have := hsh b hb; simp; omega) (by show ρ.G ≤ _; simp; omega) hr hL
    exact ⟨ρ1, b, w1', more, h1, h2, h3, hn.2.trans h4, h5⟩
  | @shape ρ r r' k k' hr' h ih =>
    intro w w' w1 es es1 x es' hw hsh hG hr hL
    obtain ⟨ρ1, b, w1', more, h1, h2, h3, h4, h5⟩ := ih _ _ (hw.shapes hr') es' hw hsh hG hr hL
    exact ⟨ρ1, b, w1', more, by simp only [Sem.runT]; exact h1, h2, h3, h4, h5⟩
  | @getObj ρ r r' k k' hr' h ih =>
    intro w w' w1 es es1 x es' hw hsh hG hr hL
    obtain ⟨o, o', h1, h2, ho⟩ := hw.obj _ _ hr'
    cases ho with
    | cells e _ hc hf =>
      simp only [Sem.runT, h1] at hr
      cases hr
    | part hl hh hc =>
      simp only [Sem.runT, h1] at hr
      cases hr
    | @number a a' l _ hn =>
      simp only [Sem.runT, h1] at hr
      obtain ⟨ρ1, b, w1', more, g1, g2, g3, g4, g5⟩ := ih a a' l hn (es'.push ⟨.obj r', false, false⟩) hw hsh hG hr hL
      refine ⟨ρ1, b, w1', #[⟨.obj r', false, false⟩] ++ more, ?_, g2, g3, g4, fun e he => ?_⟩
      · simp only [Sem.runT, h2]
        rw [← Array.append_assoc]
        exact g1
      · rcases Array.mem_append.1 he with he | he
        · simp only [Array.mem_singleton] at he
          subst he
          exact .inr (.inl ⟨_, _, rfl, rfl, rfl, g4.le.app hr'⟩)
        · exact g5 e he
  | choose q h ih =>
    intro w w' w1 es es1 x es' hw hsh hG hr hL
    simp only [Sem.runT] at hr ⊢
    by_cases hq : q.forced = true
    · rw [if_pos hq] at hr
      obtain ⟨ρ1, b, w1', more, h1, h2, h3, h4, h5⟩ := ih _ es' hw hsh hG hr hL
      exact ⟨ρ1, b, w1', more, by rw [if_pos hq]; exact h1, h2, h3, h4, h5⟩
    · rw [if_neg hq] at hr
      have hd := hw.drew
      have hgr := (h _).grows hd.1 hsh hG hr
      obtain ⟨ρ1, b, w1', more, h1, h2, h3, h4, h5⟩ := ih _ es' hd.1 hsh hG hr hL
      have ht : w'.tape w'.drawn q = w.tape w.drawn q := by have := hw.tape 0 q (by have : w.drawn + 1 ≤ w1.drawn := hgr; omega); simpa using this.symm
      exact ⟨ρ1, b, w1', more, by rw [if_neg hq, ht]; exact h1, h2, h3, hd.2.trans h4, h5⟩
  | program h ih =>
    intro w w' w1 es es1 x es' hw hsh hG hr hL
    obtain ⟨ρ1, b, w1', more, h1, h2, h3, h4, h5⟩ := ih es' hw hsh hG hr hL
    exact ⟨ρ1, b, w1', more, h1, h2, h3, h4, h5⟩
  | room h ih =>
    intro w w' w1 es es1 x es' hw hsh hG hr hL
    obtain ⟨ρ1, b, w1', more, h1, h2, h3, h4, h5⟩ := ih (es'.push ⟨.mark .noRoom, false, true⟩) hw hsh hG hr hL
    refine ⟨ρ1, b, w1', #[⟨.mark .noRoom, false, true⟩] ++ more, by rw [← Array.append_assoc]; exact h1, h2, h3, h4, fun e he => ?_⟩
    rcases Array.mem_append.1 he with he | he
    · simp only [Array.mem_singleton] at he
      subst he
      exact .inr (.inr rfl)
    · exact h5 e he

/-- What does not end well here ends in a panic, or ends the run. -/
theorem SimS.halts {α β : Type} {Q : Ren → α → β → Prop} {L : Nat} {Sh : Nat → Prop} {p p' : Program} [Kin p p'] {ρ : Ren} {s : Sem α} {s' : Sem β} (h : SimS p p' Q ρ s s') : ∀ {w w' w1 : World} {x : Halt}, RelW L Sh ρ w w' → (∀ b, Sh b → b < w.heap.size) → ρ.G ≤ w.heap.size → s.run p w = .halt x w1 → tame x = true := by
  induction h with
  | dead h => intro w w' w1 x hw hsh hG hr; exact h.2 w x w1 hr
  | pure h => intro w w' w1 x hw hsh hG hr; cases hr
  | load ha h ih =>
    intro w w' w1 x hw hsh hG hr
    have hc := hw.cell ha
    simp only [Sem.run] at hr
    split at hr
    · rename_i v hv
      obtain ⟨v', hv', hrel⟩ := hc.1 v hv
      exact ih v v' hrel hw hsh hG hr
    · rename_i hn
      obtain ⟨y, hy, ht⟩ := (hc.2 hn p (Mode.plain == .atomic)).1
      rw [hy] at hr
      cases hr
      exact ht
  | @store ρ a a' v v' k k' ha hv h ih =>
    intro w w' w1 x hw hsh hG hr
    have hc := hw.cell ha
    have hst := fun hx hy => hw.store ha hv hx hy
    cases v <;> simp only [Sem.run] at hr
    all_goals first
      | (cases hr; rfl)
      | (split at hr
         · rename_i v0 hv0
           split at hr
           · cases hr; rfl
           · rename_i hfz
             exact ih (hst ⟨v0, hv0⟩ (by simpa using hfz)).1 (fun b hb => by simpa [World.setCell] using hsh b hb) (by simpa [World.setCell] using hG) hr
         · rename_i hn
           obtain ⟨y, hy, ht⟩ := (hc.2 hn p (Mode.plain == .atomic)).2 _
           rw [hy] at hr
           cases hr
           exact ht)
  | @new ρ o o' k k' ho h ih =>
    intro w w' w1 x hw hsh hG hr
    have hn := hw.new hsh ho
    exact ih _ w.heap.size w'.heap.size hn.2.le (.inr ⟨rfl, rfl⟩) hG (hw.low0 _ (Nat.le_refl _)) hn.1 (fun b hb => by have := hsh b hb; simp; omega) (by show ρ.G ≤ _; simp; omega) hr
  | shape hr' h ih => intro w w' w1 x hw hsh hG hr; exact ih _ _ (hw.shapes hr') hw hsh hG hr
  | @getObj ρ r r' k k' hr' h ih =>
    intro w w' w1 x hw hsh hG hr
    obtain ⟨o, o', h1, h2, ho⟩ := hw.obj _ _ hr'
    cases ho with
    | cells e _ hc hf =>
      simp only [Sem.run, h1] at hr
      cases hr
      rfl
    | part hl hh hc =>
      simp only [Sem.run, h1] at hr
      cases hr
      rfl
    | @number a a' l _ hn =>
      simp only [Sem.run, h1] at hr
      exact ih a a' l hn hw hsh hG hr
  | choose q h ih =>
    intro w w' w1 x hw hsh hG hr
    simp only [Sem.run] at hr
    by_cases hq : q.forced = true
    · rw [if_pos hq] at hr
      exact ih _ hw hsh hG hr
    · rw [if_neg hq] at hr
      exact ih _ hw.drew.1 hsh hG hr
  | program h ih => intro w w' w1 x hw hsh hG hr; exact ih hw hsh hG hr
  | room h ih => intro w w' w1 x hw hsh hG hr; exact ih hw hsh hG hr

end Go.Proofs.YtepbidaoloplbaaDoor
