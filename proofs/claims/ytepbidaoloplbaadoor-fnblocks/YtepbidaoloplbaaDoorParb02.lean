/-
  A run beside others, carried over from a run alone, up to the numbers of blocks. HERE: the operations of the language (those that are named below), each alike up to the renaming. No program is spoken of but by what its types' noughts are.
  A run beside others, carried over from a run alone, up to the numbers of blocks. HERE: operators, addresses, slices, append, len, min, conversions between integers. No program is spoken of but by what its types' noughts are.
  A run beside others, carried over from a run alone, up to the numbers of blocks. HERE: addresses, slices, append, len, min, conversions between integers; and the operations of a region (those that 'okOp' names). No program is spoken of but by what its types' noughts are.
-/
import Derived.Test.YtepbidaoloplbaaDoorParb01
namespace Go.Proofs.YtepbidaoloplbaaDoor
open Go

/-- A value of the program's text that names no memory. -/
def flatC : Value → Bool
  | .bool _ | .int _ _ | .string _ | .pointer none | .slice none 0 0 | .map none | .chan none | .nilFunc | .nilIface => true
  | .tuple x => x.isEmpty
  | .agg x => x.isEmpty
  | _ => false
/-- The nought of a type. -/
def flatZ (v : Value) : Bool := match v with
  | .agg x => x.all flatC
  | v => flatC v
def okZero (P : Program) (t : TypeId) : Bool := match P.info? t with
  | some i => (match i.zero with | some z => flatZ z | none => true)
  | none => true
/-- The elements of a slice of this type. -/
def okElem (P : Program) (t : TypeId) : Bool := match P.underlying t with
  | some (.slice e) => okZero P e
  | _ => true

section
variable {Pg P : Program} [Kin Pg P] {α β γ δ : Type} {ρ : Ren}

/-! ### small words -/
theorem SimS.dd {Q : Ren → α → β → Prop} {s : Sem α} {s' : Sem β} (h : Dead Pg s) : SimS Pg P Q ρ s s' := .dead h
theorem dead_halt (h : Halt) (ht : tame h = true) : Dead Pg (.halt h : Sem α) := ⟨fun w a w1 e => (by cases e), fun w x w1 e => (by cases e; exact ht)⟩
theorem dead_stuck (m : String) : Dead Pg (stuck m : Sem α) := dead_halt _ rfl
theorem dead_unsupported (u : Unsupported) (h : tame (.unsupported u) = true := by rfl) : Dead Pg (unsupported u : Sem α) := dead_halt _ h
theorem dead_goPanic (v : Value) : Dead Pg (goPanic v : Sem α) := dead_halt _ rfl
theorem run_bind_two {p : Program} {s : Sem α} {f : α → Sem γ} {w w1 : World} {c : γ} (h : (s.bind f).run p w = .ok c w1) : ∃ a w0, s.run p w = .ok a w0 ∧ (f a).run p w0 = .ok c w1 := by
  induction s generalizing w with
  | pure a => exact ⟨a, w, rfl, h⟩
  | load m a k ih =>
    simp only [Sem.bind, Sem.run] at h ⊢
    split at h
    · exact ih _ h
    · split at h
      · exact ih _ h
      · cases h
  | store m a v k ih =>
    cases v <;> simp only [Sem.bind, Sem.run] at h ⊢
    all_goals first
      | (cases h; done)
      | (split at h
         · split at h
           · cases h
           · rename_i h1; simp only [h1]; exact ih h
         · split at h
           · exact ih h
           · cases h)
  | new o k ih => exact ih _ h
  | shape r k ih => exact ih _ h
  | freeze a n k ih => exact ih h
  | frozen a k ih => exact ih _ h
  | getObj r k ih =>
    simp only [Sem.bind, Sem.run] at h ⊢
    split at h
    · cases h
    · exact ih _ h
    · cases h
  | setObj r o k ih =>
    simp only [Sem.bind, Sem.run] at h ⊢
    split at h
    · cases h
    · exact ih h
    · cases h
  | choose q k ih =>
    simp only [Sem.bind, Sem.run] at h ⊢
    by_cases hq : q.forced = true
    · rw [if_pos hq] at h ⊢
      exact ih _ h
    · rw [if_neg hq] at h ⊢
      exact ih _ h
  | sys c k ih => exact ih _ h
  | program k ih => exact ih _ h
  | mark m k ih => exact ih h
  | halt x => cases h
theorem tame_bind {s : Sem α} {f : α → Sem γ} (hs : TameS Pg s) (h : ∀ a, TameS Pg (f a)) : TameS Pg (s >>= f) := fun w x w1 e => by
  rcases run_bind_halt (show (s.bind f).run Pg w = .halt x w1 from e) with hx | ⟨a, w0, _, h2⟩
  · exact hs w x w1 hx
  · exact h a w0 x w1 h2
theorem dead_bind {s : Sem α} {f : α → Sem γ} (hs : TameS Pg s) (h : ∀ a, Dead Pg (f a)) : Dead Pg (s >>= f) := by
  refine ⟨fun w c w1 e => ?_, tame_bind hs fun a => (h a).2⟩
  obtain ⟨a, w0, _, h2⟩ := run_bind_two (show (s.bind f).run Pg w = .ok c w1 from e)
  exact (h a).1 w0 c w1 h2
theorem dead_left {s : Sem α} {f : α → Sem γ} (h : Dead Pg s) : Dead Pg (s >>= f) := by
  refine ⟨fun w c w1 e => ?_, fun w x w1 e => ?_⟩
  · obtain ⟨a, w0, h1, _⟩ := run_bind_two (show (s.bind f).run Pg w = .ok c w1 from e)
    exact h.1 w a w0 h1
  · rcases run_bind_halt (show (s.bind f).run Pg w = .halt x w1 from e) with hx | ⟨a, w0, h1, _⟩
    · exact h.2 w x w1 hx
    · exact absurd h1 (h.1 w a w0)
theorem tame_pure (a : α) : TameS Pg (Pure.pure a : Sem α) := fun w x w1 e => by cases e
theorem tame_program : TameS Pg (program : Sem Program) := fun w x w1 e => by cases e
theorem tame_new (o : Obj) : TameS Pg (newObj o) := fun w x w1 e => by cases e
theorem tame_shape (r : Nat) : TameS Pg (shape r) := fun w x w1 e => by cases e
theorem tame_frozen (a : Addr) : TameS Pg (frozen a) := fun w x w1 e => by cases e
theorem tame_mark (m : Mark) : TameS Pg (mark m) := fun w x w1 e => by cases e
theorem tame_choose (q : Question) : TameS Pg (choose q) := fun w x w1 e => by
  simp only [choose, Sem.run] at e
  split at e <;> cases e
theorem tame_typeInfo (t : TypeId) : TameS Pg (typeInfo t) := tame_bind tame_program fun p => by
  split
  · exact tame_pure _
  · exact (dead_stuck _).2
theorem tame_underlying (t : TypeId) : TameS Pg (underlying t) := tame_bind tame_program fun p => by
  split
  · exact tame_pure _
  · exact (dead_stuck _).2
theorem tame_elemOf (t : TypeId) : TameS Pg (elemOf t) := tame_bind (tame_underlying t) fun d => by
  cases d <;> first | exact tame_pure _ | exact (dead_stuck _).2
theorem tame_newVar (t : TypeId) (v : Value) : TameS Pg (newVar t v) := tame_bind (tame_new _) fun _ => tame_pure _
theorem dead_runtimePanic (e : RuntimeError) : Dead Pg (runtimePanic e : Sem α) := by
  unfold runtimePanic
  refine dead_bind tame_program fun p => ?_
  cases e
  all_goals first
    | exact dead_goPanic _
    | exact dead_bind (tame_elemOf _) fun _ => dead_bind (tame_newVar _ _) fun _ => dead_goPanic _
theorem dead_boundsPanic (k : IntKind) (x y : Int) (c : BoundsCode) : Dead Pg (boundsPanic k x y c : Sem α) := by
  unfold boundsPanic
  dsimp only
  split
  · exact dead_bind (tame_bind (tame_choose _) fun _ => tame_pure _) fun _ => dead_runtimePanic _
  · exact dead_bind (tame_pure _) fun _ => dead_runtimePanic _
theorem SimS.bd {Q : Ren → α → β → Prop} {Q' : Ren → γ → δ → Prop} {s : Sem α} {s' : Sem β} {f : α → Sem γ} {f' : β → Sem δ} (h : SimS Pg P Q ρ s s') (hf : ∀ ρ' a b, ρ.le ρ' → Q ρ' a b → SimS Pg P Q' ρ' (f a) (f' b)) : SimS Pg P Q' ρ (s >>= f) (s' >>= f') := SimS.bind h hf
theorem SimS.pr {Q : Ren → α → β → Prop} {a : α} {b : β} (h : Q ρ a b) : SimS Pg P Q ρ (Pure.pure a) (Pure.pure b) := .pure h

/-! ### rows of values -/
theorem RelR.empty : RelR ρ #[] #[] := ⟨rfl, fun i v v' h => by simp at h⟩
theorem RelR.push {x x' : Array Value} {v v' : Value} (h : RelR ρ x x') (hv : RelV ρ v v') : RelR ρ (x.push v) (x'.push v') := by
  refine ⟨by simp [h.1], fun i a b h1 h2 => ?_⟩
  rw [Array.getElem?_push] at h1 h2
  rw [← h.1] at h2
  by_cases e : i = x.size
  · rw [if_pos e] at h1 h2
    cases h1; cases h2
    exact hv
  · rw [if_neg e] at h1 h2
    exact h.2 i a b h1 h2
theorem RelR.append {x x' y y' : Array Value} (h : RelR ρ x x') (k : RelR ρ y y') : RelR ρ (x ++ y) (x' ++ y') := by
  refine ⟨by simp [h.1, k.1], fun i a b h1 h2 => ?_⟩
  rw [Array.getElem?_append] at h1 h2
  rw [← h.1] at h2
  by_cases e : i < x.size
  · rw [if_pos e] at h1 h2
    exact h.2 i a b h1 h2
  · rw [if_neg e] at h1 h2
    exact k.2 _ a b h1 h2
theorem RelR.one {v v' : Value} (hv : RelV ρ v v') : RelR ρ #[v] #[v'] := RelR.push (x := #[]) (x' := #[]) .empty hv
theorem RelR.extract {x x' : Array Value} (h : RelR ρ x x') (a b : Nat) : RelR ρ (x.extract a b) (x'.extract a b) := by
  refine ⟨by simp [h.1], fun i u v h1 h2 => ?_⟩
  rw [Array.getElem?_extract] at h1 h2
  split at h1
  · split at h2
    · exact h.2 _ u v h1 h2
    · cases h2
  · cases h1
theorem RelR.get {x x' : Array Value} (h : RelR ρ x x') (i : Nat) : (x[i]? = none ∧ x'[i]? = none) ∨ ∃ v v', x[i]? = some v ∧ x'[i]? = some v' ∧ RelV ρ v v' := by
  by_cases hi : i < x.size
  · have hi' : i < x'.size := by rw [← h.1]; exact hi
    exact .inr ⟨x[i], x'[i], Array.getElem?_eq_getElem hi, Array.getElem?_eq_getElem hi', h.2 i _ _ (Array.getElem?_eq_getElem hi) (Array.getElem?_eq_getElem hi')⟩
  · exact .inl ⟨Array.getElem?_eq_none (by omega), Array.getElem?_eq_none (by rw [← h.1]; omega)⟩
theorem RelR.agg {x x' : Array Value} (h : RelR ρ x x') : RelV ρ (.agg x) (.agg x') := .agg h.1 h.2
theorem RelR.tuple {x x' : Array Value} (h : RelR ρ x x') : RelV ρ (.tuple x) (.tuple x') := .tuple h.1 h.2
theorem flatC_rel {v : Value} (h : flatC v = true) : RelV ρ v v := by
  cases v with
  | bool b => exact .bool b
  | int k n => exact .int k n
  | string s => exact .string s
  | pointer a => cases a with
    | none => exact .ptrNil
    | some a => cases h
  | slice a n c => cases a with
    | none =>
      have e : n = 0 ∧ c = 0 := by cases n <;> cases c <;> simp_all [flatC]
      obtain ⟨rfl, rfl⟩ := e
      exact .sliceNil
    | some a => cases h
  | map r => cases r with
    | none => exact .mapNil
    | some a => cases h
  | chan r => cases r with
    | none => exact .chanNil
    | some a => cases h
  | nilFunc => exact .nilFunc
  | nilIface => exact .nilIface
  | tuple x =>
    obtain rfl : x = #[] := by simpa [flatC] using h
    exact RelR.tuple .empty
  | agg x =>
    obtain rfl : x = #[] := by simpa [flatC] using h
    exact RelR.agg .empty
  | _ => cases h
theorem flatZ_rel {v : Value} (h : flatZ v = true) : RelV ρ v v := by
  unfold flatZ at h
  split at h
  · rename_i x
    refine RelR.agg ⟨rfl, fun i a b h1 h2 => ?_⟩
    rw [h1] at h2
    cases h2
    exact flatC_rel (Array.all_eq_true'.1 h a (Array.mem_of_getElem? h1))
  · exact flatC_rel h
/-! ### what asks the program alone -/
/-- One and the same on both sides. -/
def Same : Ren → α → α → Prop := fun _ a b => a = b
theorem kin_info (t : TypeId) : Pg.info? t = P.info? t := by
  obtain ⟨Tg, fg⟩ := Pg
  obtain ⟨T, f⟩ := P
  obtain rfl : Tg = T := ‹Kin _ _›.tables
  rfl
theorem kin_underlying (t : TypeId) : Pg.underlying t = P.underlying t := by
  obtain ⟨Tg, fg⟩ := Pg
  obtain ⟨T, f⟩ := P
  obtain rfl : Tg = T := ‹Kin _ _›.tables
  rfl
theorem sim_program : SimS Pg P (fun _ p q => p.toTables = q.toTables) ρ (program : Sem Program) program := .program (.pure ‹Kin Pg P›.tables)
theorem sim_typeInfo (t : TypeId) : SimS Pg P (fun _ a b => a = b ∧ P.info? t = some a) ρ (typeInfo t) (typeInfo t) := by
  refine .program ?_
  show SimS Pg P _ ρ (match Pg.info? t with | some i => Pure.pure i | none => stuck "no such type") (match P.info? t with | some i => Pure.pure i | none => stuck "no such type")
  rw [kin_info (Pg := Pg) (P := P) t]
  cases h : P.info? t with
  | none => exact .dd (dead_stuck _)
  | some i => exact .pr ⟨rfl, rfl⟩
theorem sim_underlying (t : TypeId) : SimS Pg P Same ρ (underlying t) (underlying t) := by
  refine .program ?_
  show SimS Pg P _ ρ (match Pg.underlying t with | some i => Pure.pure i | none => stuck "no such type") (match P.underlying t with | some i => Pure.pure i | none => stuck "no such type")
  rw [kin_underlying (Pg := Pg) (P := P) t]
  cases h : P.underlying t with
  | none => exact .dd (dead_stuck _)
  | some i => exact .pr rfl
theorem sim_sizeOf (t : TypeId) : SimS Pg P Same ρ (sizeOf t) (sizeOf t) := (sim_typeInfo t).bd fun _ a b _ h => by
  rw [h.1]
  exact .pr rfl
theorem sim_zeroValue {t : TypeId} (hz : okZero P t = true) : SimS Pg P RelV ρ (zeroValue t) (zeroValue t) := (sim_typeInfo t).bd fun ρ' a b _ h => by
  obtain ⟨rfl, hi⟩ := h
  cases hz' : a.zero with
  | none => exact .dd (dead_unsupported _)
  | some z =>
    simp only [okZero, hi, hz'] at hz
    exact .pr (flatZ_rel hz)
theorem sim_isAgg (t : TypeId) : SimS Pg P Same ρ (isAgg t) (isAgg t) := (sim_underlying t).bd fun _ a b _ h => by
  obtain rfl : a = b := h
  cases a <;> exact .pr rfl

theorem RelV.cells {v v' : Value} (h : RelV ρ v v') : RelR ρ v.cells v'.cells := by
  cases h with
  | agg hx h => exact ⟨hx, h⟩
  | bool b => exact .one (.bool b)
  | int k n => exact .one (.int k n)
  | string s => exact .one (.string s)
  | ptrNil => exact .one .ptrNil
  | ptr h => exact .one (.ptr h)
  | sliceNil => exact .one .sliceNil
  | slice n c h => exact .one (.slice n c h)
  | mapNil => exact .one .mapNil
  | chanNil => exact .one .chanNil
  | func f hA hx h1 hy h2 => exact .one (.func f hA hx h1 hy h2)
  | nilFunc => exact .one .nilFunc
  | iface t h => exact .one (.iface t h)
  | nilIface => exact .one .nilIface
  | tuple hx h => exact .one (.tuple hx h)
theorem RelA.add {a a' : Addr} (h : RelA ρ a a') (n : Nat) : RelA ρ (a.add n) (a'.add n) := by
  unfold Addr.add
  split
  · exact h
  · exact ⟨h.1, by simp [h.2.1], rfl, h.2.2.2.1, by have := h.2.2.2.2; show ρ.lo a.block ≤ a.off + n + 1; omega⟩

/-! ### memory -/
theorem sim_load {a a' : Addr} (h : RelA ρ a a') : SimS Pg P RelV ρ (load a) (load a') := .load h fun _ _ hv => .pure hv
theorem sim_store {a a' : Addr} {v v' : Value} (h : RelA ρ a a') (hv : RelV ρ v v') : SimS Pg P Same ρ (store a v) (store a' v') := .store h hv (.pure rfl)
theorem sim_loadCellsFrom {a a' : Addr} (n : Nat) : ∀ {ρ : Ren} (_ : RelA ρ a a') (i : Nat) {x x' : Array Value}, RelR ρ x x' → SimS Pg P RelR ρ (loadCellsFrom a i n x) (loadCellsFrom a' i n x') := by
  induction n with
  | zero => intro ρ h i x x' hx; exact .pr hx
  | succ n ih =>
    intro ρ h i x x' hx
    exact (sim_load (h.add i)).bd fun ρ' v v' hle hv => ih (h.mono hle) (i + 1) ((hx.mono hle).push hv)
theorem sim_loadCells {a a' : Addr} (h : RelA ρ a a') (n : Nat) : SimS Pg P RelR ρ (loadCells a n) (loadCells a' n) := sim_loadCellsFrom n h 0 .empty
theorem sim_storeCells {a a' : Addr} (l : List Value) : ∀ {ρ : Ren} (_ : RelA ρ a a') (l' : List Value) (i : Nat), RelR ρ l.toArray l'.toArray → SimS Pg P Same ρ (storeCells a l i) (storeCells a' l' i) := by
  induction l with
  | nil =>
    intro ρ h l' i hl
    cases l' with
    | nil => exact .pr rfl
    | cons v r => simp [RelR] at hl
  | cons v r ih =>
    intro ρ h l' i hl
    cases l' with
    | nil => simp [RelR] at hl
    | cons v' r' =>
      refine (sim_store (h.add i) (hl.2 0 v v' (by simp) (by simp))).bd fun ρ' _ _ hle _ => ih (h.mono hle) r' (i + 1) ?_
      refine RelR.mono hle ⟨by have := hl.1; simpa using this, fun j a b h1 h2 => hl.2 (j + 1) a b (by simpa using h1) (by simpa using h2)⟩
theorem sim_loadVar {a a' : Addr} (h : RelA ρ a a') (t : TypeId) : SimS Pg P RelV ρ (loadVar t a) (loadVar t a') := by
  refine (sim_isAgg t).bd fun ρ1 b b' hle hb => ?_
  obtain rfl : b = b' := hb
  cases b
  · exact sim_load (h.mono hle)
  · refine (sim_sizeOf t).bd fun ρ2 n n' hle2 hn => ?_
    obtain rfl : n = n' := hn
    exact (sim_loadCells ((h.mono hle).mono hle2) n).bd fun ρ3 x x' _ hx => .pr hx.agg
theorem sim_storeVar {a a' : Addr} {v v' : Value} (h : RelA ρ a a') (hv : RelV ρ v v') (t : TypeId) : SimS Pg P Same ρ (storeVar t a v) (storeVar t a' v') := by
  refine (sim_sizeOf t).bd fun ρ1 n n' hle hn => ?_
  obtain rfl : n = n' := hn
  have hc := (hv.mono hle).cells
  rw [← hc.1]
  by_cases hs : v.cells.size ≠ n
  · rw [if_pos hs]
    exact .dd (dead_left (dead_stuck _))
  · rw [if_neg hs, if_neg hs]
    exact sim_storeCells _ (h.mono hle) _ 0 (by simpa using hc)
theorem relO_cells {x x' : Array Value} (e : TypeId) (h : RelR ρ x x') : RelO ρ 0 (.cells x e) (.cells x' e) := .cells e rfl h fun i _ k => by omega
theorem sim_newRow {x x' : Array Value} (e : TypeId) (h : RelR ρ x x') : SimS Pg P RelA ρ (newRow e x) (newRow e x') := .new (relO_cells e h) fun _ _ _ _ hr hG h0 => .pure ⟨hr, rfl, rfl, fun (k : _ < _) => absurd k (Nat.not_lt.2 hG), by simp only [h0]; omega⟩
theorem sim_newVar {v v' : Value} (e : TypeId) (h : RelV ρ v v') : SimS Pg P RelA ρ (newVar e v) (newVar e v') := sim_newRow e h.cells

/-! ### values that are asked for -/
theorem sim_asIntOf {v v' : Value} (h : RelV ρ v v') : SimS Pg P Same ρ (asIntOf v) (asIntOf v') := by
  cases h <;> first | exact .pr rfl | exact .dd (dead_stuck _) | exact .dd (dead_unsupported _)
theorem sim_asInt {v v' : Value} (h : RelV ρ v v') : SimS Pg P Same ρ (asInt v) (asInt v') := (sim_asIntOf h).bd fun _ a b _ hab => by
  obtain rfl : a = b := hab
  exact .pr rfl
theorem sim_asBool {v v' : Value} (h : RelV ρ v v') : SimS Pg P Same ρ (asBool v) (asBool v') := by
  cases h <;> first | exact .pr rfl | exact .dd (dead_stuck _)
theorem sim_sureAddr {v v' : Value} (h : RelV ρ v v') : SimS Pg P RelA ρ (Instr.sureAddr v) (Instr.sureAddr v') := by
  cases h with
  | ptr h => exact .pr h
  | _ => exact .dd (dead_stuck _)
theorem sim_asAddr {v v' : Value} (h : RelV ρ v v') : SimS Pg P RelA ρ (asAddr v) (asAddr v') := by
  cases h with
  | ptr h => exact .pr h
  | ptrNil => exact .dd (show Dead Pg (runtimePanic .nilDeref) from dead_runtimePanic _)
  | _ => exact .dd (dead_stuck _)
end

end Go.Proofs.YtepbidaoloplbaaDoor

namespace Go.Proofs.YtepbidaoloplbaaDoor
open Go

/-! ### what hangs on the tables alone -/
theorem kin_cells (T : Tables) (f f' : Array Func) (e : TypeId) : Program.cellsOf ⟨T, f⟩ e = Program.cellsOf ⟨T, f'⟩ e := rfl
theorem kin_bytes (T : Tables) (f f' : Array Func) (e : TypeId) : Program.bytesOf ⟨T, f⟩ e = Program.bytesOf ⟨T, f'⟩ e := rfl
theorem kin_depth (T : Tables) (f f' : Array Func) : Program.depth ⟨T, f⟩ = Program.depth ⟨T, f'⟩ := rfl
theorem kin_byteOfCell (T : Tables) (f f' : Array Func) (d : Nat) : byteOfCell ⟨T, f⟩ d = byteOfCell ⟨T, f'⟩ d := by
  induction d with
  | zero => rfl
  | succ d ih =>
    funext t off
    unfold byteOfCell
    rw [ih]
    rfl
theorem kin_cellOfByte (T : Tables) (f f' : Array Func) (d : Nat) : cellOfByte ⟨T, f⟩ d = cellOfByte ⟨T, f'⟩ d := by
  induction d with
  | zero => rfl
  | succ d ih =>
    funext t off
    unfold cellOfByte
    rw [ih]
    rfl
theorem kin_cellAtBytes (T : Tables) (f f' : Array Func) (d : Nat) : cellAtBytes ⟨T, f⟩ d = cellAtBytes ⟨T, f'⟩ d := by
  funext e count off bytes
  unfold cellAtBytes
  rw [kin_byteOfCell T f f', kin_cellOfByte T f f']
  rfl

section
variable {Pg P : Program} [Kin Pg P] {ρ : Ren}

/-! ### addresses as numbers (nobody here does so; but who adds could) -/
theorem sim_shape {r r' : Nat} (h : ρ r r') : SimS Pg P (fun ρ' s s' => ρ.le ρ' ∧ ShapeR ρ (ρ.lo r) s s') ρ (shape r) (shape r') := .shape h fun _ _ hs => .pure ⟨.refl _, hs⟩
theorem sim_viewAt {r r' : Nat} (h : ρ r r') : SimS Pg P (fun _ a b => a = none ∧ b = none) ρ (viewAt r) (viewAt r') := by
  refine (sim_shape h).bd fun ρ1 s s' hle hs => ?_
  rcases hs.2 with ⟨_, rfl⟩ | ⟨hl, m, e', m', rfl, rfl⟩
  case inr => exact .pr ⟨rfl, rfl⟩
  cases s with
  | some x => exact .pr ⟨rfl, rfl⟩
  | none => exact .getObj (hle.app h) fun a a' l _ => .pure ⟨rfl, rfl⟩
theorem sim_numberAt {r r' : Nat} (h : ρ r r') : SimS Pg P (fun ρ a b => (a = none ∧ b = none) ∨ ∃ x x' l, a = some (x, l) ∧ b = some (x', l) ∧ RelA ρ x x') ρ (numberAt r) (numberAt r') := by
  refine (sim_shape h).bd fun ρ1 s s' hle hs => ?_
  rcases hs.2 with ⟨_, rfl⟩ | ⟨hl, m, e', m', rfl, rfl⟩
  case inr => exact .pr (.inl ⟨rfl, rfl⟩)
  cases s with
  | some x => exact .pr (.inl ⟨rfl, rfl⟩)
  | none => exact .getObj (hle.app h) fun a a' l ha => .pure (.inr ⟨a, a', l, rfl, rfl, ha⟩)
theorem sim_behindNumber {a a' : Addr} (h : RelA ρ a a') : SimS Pg P (fun ρ x y => RelA ρ x.1 y.1 ∧ x.2 = y.2) ρ (behindNumber a) (behindNumber a') := by
  refine (sim_numberAt h.1).bd fun ρ1 s s' hle hs => ?_
  rcases hs with ⟨rfl, rfl⟩ | ⟨x, x', l, rfl, rfl, hx⟩
  · exact .pr ⟨h.mono hle, rfl⟩
  · exact .pr ⟨hx, rfl⟩
theorem dead_noType {t : TypeId} (h : P.info? t = none) : Dead Pg (typeInfo t) := by
  have e : ∀ w, (typeInfo t).run Pg w = .halt (.stuck "no such type") w := fun w => by
    show (match Pg.info? t with | some i => (Pure.pure i : Sem TypeInfo) | none => stuck "no such type").run Pg w = _
    rw [kin_info (P := P), h]
    rfl
  exact ⟨fun w a w1 hx => (by rw [e] at hx; cases hx), fun w x w1 hx => (by rw [e] at hx; cases hx; rfl)⟩
theorem dead_bind2 {α : Type} {f : Program → Sem α} (e : ∀ w, ((program : Sem Program) >>= f).run Pg w = (f Pg).run Pg w) (h : Dead Pg (f Pg)) : Dead Pg ((program : Sem Program) >>= f) := ⟨fun w a w1 hx => h.1 w a w1 ((e w).symm.trans hx), fun w x w1 hx => h.2 w x w1 ((e w).symm.trans hx)⟩
theorem sim_asNumber {a a' : Addr} (h : RelA ρ a a') (l : Bool) : SimS Pg P RelV ρ (asNumber a l) (asNumber a' l) := .new (.number l rfl h) fun _ _ _ _ hr hG h0 => .pure (.ptr ⟨hr, rfl, rfl, fun (k : _ < _) => absurd k (Nat.not_lt.2 hG), by simp only [h0]; omega⟩)
theorem sim_noView {a a' : Addr} (h : RelA ρ a a') : SimS Pg P Same ρ (noView a) (noView a') := (sim_viewAt h.1).bd fun _ _ _ _ hs => by
  obtain ⟨rfl, rfl⟩ := hs
  exact .pr rfl
theorem sim_byteOf {a a' : Addr} (h : RelA ρ a a') (h0 : ρ.lo a.block = 0) : SimS Pg P Same ρ (byteOf a) (byteOf a') := by
  obtain ⟨b, o, s⟩ := a
  obtain ⟨b', o', s'⟩ := a'
  have h' := h
  obtain ⟨hb, rfl, rfl, _⟩ := h'
  unfold byteOf
  cases s' with
  | some x => exact .pr rfl
  | none =>
    refine sim_program.bd fun ρ1 p p' hle hp => ?_
    obtain ⟨pt, pf⟩ := p
    obtain ⟨pt', pf'⟩ := p'
    obtain rfl : pt = pt' := hp
    refine (sim_noView (h.mono hle)).bd fun ρ2 _ _ hle2 _ => ?_
    refine (sim_shape (hle2.app (hle.app hb))).bd fun ρ3 s s' _ hs => ?_
    have h02 : ρ2.lo b = 0 := by rw [hle2.lo, hle.lo]; exact h0
    rcases hs.2 with ⟨_, rfl⟩ | ⟨hl, m, e', m', rfl, rfl⟩
    case inr => exact absurd h02 hl
    cases s with
    | none => exact .dd (dead_stuck _)
    | some x =>
      obtain ⟨e, n⟩ := x
      dsimp only
      simp only [kin_cells pt pf' pf, kin_bytes pt pf' pf, kin_depth pt pf' pf, kin_byteOfCell pt pf' pf]
      split
      · exact .pr rfl
      · split
        · exact .pr rfl
        · exact .dd (dead_stuck _)
theorem sim_unsafeAdd (hG : Fits P ρ) {x x' y y' : Value} (hx : RelV ρ x x') (hy : RelV ρ y y') (t : TypeId) : SimS Pg P RelV ρ (Builtin.unsafeAdd_ #[] t #[x, y]) (Builtin.unsafeAdd_ #[] t #[x', y']) := by
  unfold Builtin.unsafeAdd_
  cases hx with
  | ptrNil =>
    refine (sim_asInt hy).bd fun ρ1 n n' hle hn => ?_
    obtain rfl : n = n' := hn
    dsimp only
    split
    · exact .dd (dead_unsupported _)
    · split
      · exact .dd (dead_left (dead_unsupported _))
      · exact .dd (dead_unsupported _)
  | @ptr a a' h =>
    refine (sim_asInt hy).bd fun ρ1 n n' hle hn => ?_
    obtain rfl : n = n' := hn
    dsimp only
    split
    · refine (sim_viewAt (hle.app h.1)).bd fun ρ2 s s' hle2 hs => ?_
      obtain ⟨rfl, rfl⟩ := hs
      exact .pr (.ptr ((h.mono hle).mono hle2))
    · split
      · exact .dd (dead_left (dead_unsupported _))
      · refine (sim_shape (hle.app h.1)).bd fun ρ2 s s' hle2 hs => ?_
        rcases hs.2 with ⟨h0, rfl⟩ | ⟨hl, m, e', m', rfl, rfl⟩
        case inr =>
          refine .dd (dead_bind2 (fun w => rfl) ?_)
          have hb : Pg.cellsOf ρ1.Bg = 0 := by
            unfold Program.cellsOf
            rw [kin_info (P := P), (hG.mono hle).bog]
            rfl
          have hn : cellAtBytes Pg Pg.depth ρ1.Bg (m / Pg.cellsOf ρ1.Bg) a.off n = none := by
            unfold cellAtBytes
            simp [hb]
          rw [hn]
          exact dead_unsupported _
        cases s with
        | none => exact .dd (dead_unsupported _)
        | some e =>
          obtain ⟨e, cells⟩ := e
          refine sim_program.bd fun ρ3 p p' hle3 hp => ?_
          obtain ⟨pt, pf⟩ := p
          obtain ⟨pt', pf'⟩ := p'
          obtain rfl : pt = pt' := hp
          simp only [kin_cells pt pf' pf, kin_depth pt pf' pf, kin_cellAtBytes pt pf' pf]
          rw [h.2.1]
          split
          · exact .pr (.ptr (((h.mono hle).mono hle2).mono hle3 |> fun k => ⟨k.1, rfl, k.2.2.1, k.2.2.2.1, by rw [hle3.lo, hle2.lo, h0]; omega⟩))
          · exact .dd (dead_unsupported _)
  | _ => exact .dd (dead_stuck _)
theorem sim_movedNumber (hG : Fits P ρ) {x x' y y' : Value} (hx : RelV ρ x x') (hy : RelV ρ y y') (t : TypeId) : SimS Pg P RelV ρ (movedNumber t x y) (movedNumber t x' y') := by
  unfold movedNumber
  refine (sim_underlying t).bd fun ρ1 d d' hle hd => ?_
  obtain rfl : d = d' := hd
  replace hx := hx.mono hle
  replace hy := hy.mono hle
  dsimp only
  split
  · exact .dd (dead_left (dead_unsupported _))
  · cases hx with
    | @ptr a a' h =>
      refine (sim_behindNumber h).bd fun ρ2 n n' hle2 hn => ?_
      obtain ⟨n1, n2⟩ := n
      obtain ⟨m1, m2⟩ := n'
      obtain ⟨hn1, hn2⟩ := hn
      simp only at hn1 hn2
      subst hn2
      refine (sim_unsafeAdd (hG.mono (hle.trans hle2)) (.ptr hn1) (hy.mono hle2) t).bd fun ρ3 v v' hle3 hv => ?_
      cases hv with
      | ptr k => exact sim_asNumber k _
      | ptrNil => exact .pr .ptrNil
      | bool b => exact .pr (.bool b)
      | int k n => exact .pr (.int k n)
      | string s => exact .pr (.string s)
      | sliceNil => exact .pr .sliceNil
      | slice n c h => exact .pr (.slice n c h)
      | mapNil => exact .pr .mapNil
      | chanNil => exact .pr .chanNil
      | func f hA hx h1 hy h2 => exact .pr (.func f hA hx h1 hy h2)
      | nilFunc => exact .pr .nilFunc
      | iface t h => exact .pr (.iface t h)
      | nilIface => exact .pr .nilIface
      | agg hx h => exact .pr (.agg hx h)
      | tuple hx h => exact .pr (.tuple hx h)
    | ptrNil => exact sim_unsafeAdd (hG.mono hle) .ptrNil hy t
    | bool b => exact sim_unsafeAdd (hG.mono hle) (.bool b) hy t
    | int k n => exact sim_unsafeAdd (hG.mono hle) (.int k n) hy t
    | string s => exact sim_unsafeAdd (hG.mono hle) (.string s) hy t
    | sliceNil => exact sim_unsafeAdd (hG.mono hle) .sliceNil hy t
    | slice n c h => exact sim_unsafeAdd (hG.mono hle) (.slice n c h) hy t
    | mapNil => exact sim_unsafeAdd (hG.mono hle) .mapNil hy t
    | chanNil => exact sim_unsafeAdd (hG.mono hle) .chanNil hy t
    | func f hA hx h1 hy' h2 => exact sim_unsafeAdd (hG.mono hle) (.func f hA hx h1 hy' h2) hy t
    | nilFunc => exact sim_unsafeAdd (hG.mono hle) .nilFunc hy t
    | iface t' h => exact sim_unsafeAdd (hG.mono hle) (.iface t' h) hy t
    | nilIface => exact sim_unsafeAdd (hG.mono hle) .nilIface hy t
    | agg hx h => exact sim_unsafeAdd (hG.mono hle) (.agg hx h) hy t
    | tuple hx h => exact sim_unsafeAdd (hG.mono hle) (.tuple hx h) hy t
theorem sim_movedPointer (hG : Fits P ρ) {x x' y y' : Value} (hx : RelV ρ x x') (hy : RelV ρ y y') (t : TypeId) : SimS Pg P RelV ρ (movedPointer t x y) (movedPointer t x' y') := by
  have k : ∀ {ρ1 : Ren}, ρ.le ρ1 → SimS Pg P RelV ρ1 (Builtin.unsafeAdd_ #[] t #[x, y]) (Builtin.unsafeAdd_ #[] t #[x', y']) := fun hle => sim_unsafeAdd (hG.mono hle) (hx.mono hle) (hy.mono hle) t
  unfold movedPointer
  cases hx with
  | @ptr a a' h =>
    refine (sim_numberAt h.1).bd fun ρ1 s s' hle hs => ?_
    rcases hs with ⟨rfl, rfl⟩ | ⟨x, x', l, rfl, rfl, hx⟩
    · exact k hle
    · exact .dd (dead_left (dead_unsupported _))
  | _ => exact k (.refl _)
theorem sim_twoPlaces (hG : Fits P ρ) {a a' b b' : Addr} (h : RelA ρ a a') (k : RelA ρ b b') : SimS Pg P Same ρ (Op.twoPlaces a b) (Op.twoPlaces a' b') := by
  unfold Op.twoPlaces
  refine SimS.bind (Q := fun _ p q => p.globals.size = P.globals.size ∧ q = P) (.program (.pure ⟨by rw [‹Kin Pg P›.tables], rfl⟩)) fun ρ1 p p' hle hp => ?_
  obtain ⟨h1, h2⟩ := hp
  rw [h1, h2]
  by_cases hc : (a.block != b.block || decide (a.block ≥ P.globals.size)) = true
  · rw [if_pos hc]
    exact .dd (dead_left (dead_unsupported _))
  · rw [if_neg hc]
    simp only [Bool.or_eq_true, bne_iff_ne, ne_eq, decide_eq_true_eq, not_or, Decidable.not_not, Nat.not_le] at hc
    have e1 := h.2.2.2.1 (by rw [hG.size]; exact hc.2)
    have e2 := k.2.2.2.1 (by rw [hG.size, ← hc.1]; exact hc.2)
    have l1 : ρ.lo a.block = 0 := ρ.glo _ (by rw [hG.size]; exact hc.2)
    have l2 : ρ.lo b.block = 0 := ρ.glo _ (by rw [hG.size, ← hc.1]; exact hc.2)
    rw [if_neg (by simp only [Bool.or_eq_true, bne_iff_ne, ne_eq, decide_eq_true_eq, not_or, Decidable.not_not, Nat.not_le, e1, e2]; exact hc)]
    refine (sim_byteOf (h.mono hle) (by rw [hle.lo]; exact l1)).bd fun ρ2 x x' hle2 hx => ?_
    obtain rfl : x = x' := hx
    refine (sim_byteOf ((k.mono hle).mono hle2) (by rw [hle2.lo, hle.lo]; exact l2)).bd fun ρ3 y y' _ hy => ?_
    obtain rfl : y = y' := hy
    exact .pr rfl
theorem sim_addrSub (hG : Fits P ρ) (kd : IntKind) {a a' b b' : Addr} (h : RelA ρ a a') (k : RelA ρ b b') : SimS Pg P RelV ρ (Op.addrSub kd a b) (Op.addrSub kd a' b') := (sim_twoPlaces hG h k).bd fun ρ1 x x' _ hx => by
  obtain rfl : x = x' := hx
  exact .pr (.int _ _)
theorem sim_addrCmp (hG : Fits P ρ) (op : BinOp) {a a' b b' : Addr} (h : RelA ρ a a') (k : RelA ρ b b') : SimS Pg P RelV ρ (Op.addrCmp op a b) (Op.addrCmp op a' b') := (sim_twoPlaces hG h k).bd fun ρ1 x x' _ hx => by
  obtain rfl : x = x' := hx
  cases op <;> first | exact .pr (.bool _) | exact .dd (dead_unsupported _)
theorem sim_addrMod (hG : Fits P ρ) (kd : IntKind) (n : Int) {a a' : Addr} (h : RelA ρ a a') : SimS Pg P RelV ρ (Op.addrMod kd a n) (Op.addrMod kd a' n) := by
  unfold Op.addrMod
  refine (sim_shape h.1).bd fun ρ1 s s' hle hs => ?_
  rcases hs.2 with ⟨h0, rfl⟩ | ⟨hl, m, e', m', rfl, rfl⟩
  case inr => exact .dd (dead_left (dead_noType hG.bog))
  cases s with
  | none => exact .dd (dead_unsupported _)
  | some x =>
    obtain ⟨e, m⟩ := x
    refine (sim_typeInfo e).bd fun ρ2 i i' hle2 hi => ?_
    obtain ⟨rfl, _⟩ := hi
    dsimp only
    split
    · exact .dd (dead_left (dead_unsupported _))
    · refine (sim_byteOf ((h.mono hle).mono hle2) (by rw [hle2.lo, hle.lo]; exact h0)).bd fun ρ3 y y' _ hy => ?_
      obtain rfl : y = y' := hy
      exact .pr (.int _ _)

/-! ### operators -/
theorem sim_intArith (op : BinOp) (k : IntKind) (x y : Int) : SimS Pg P RelV ρ (Op.intArith op k x y) (Op.intArith op k x y) := by
  cases op <;> first | exact .pr (.int _ _) | exact .dd (dead_stuck _)
theorem sim_intDiv (op : BinOp) (k : IntKind) (x y : Int) : SimS Pg P RelV ρ (Op.intDiv op k x y) (Op.intDiv op k x y) := by
  unfold Op.intDiv
  split
  · exact .dd (dead_runtimePanic _)
  · cases op <;> first | exact .pr (.int _ _) | exact .dd (dead_stuck _)
theorem sim_intBits (op : BinOp) (k : IntKind) (x y : Int) : SimS Pg P RelV ρ (Op.intBits op k x y) (Op.intBits op k x y) := by
  cases op <;> first | exact .pr (.int _ _) | exact .dd (dead_stuck _)
theorem sim_intCmp (op : BinOp) (x y : Int) : SimS Pg P RelV ρ (Op.intCmp op x y) (Op.intCmp op x y) := by
  cases op <;> first | exact .pr (.bool _) | exact .dd (dead_stuck _)
theorem sim_shift (op : BinOp) (k k' : IntKind) (x y : Int) : SimS Pg P RelV ρ (Op.shift op k x k' y) (Op.shift op k x k' y) := by
  unfold Op.shift
  split
  · exact .dd (dead_runtimePanic _)
  · cases op <;> first | exact .pr (.int _ _) | exact .dd (dead_stuck _)
theorem sim_stringOp (op : BinOp) (x y : ByteArray) : SimS Pg P RelV ρ (Op.stringOp op x y) (Op.stringOp op x y) := by
  unfold Op.stringOp
  cases op <;> dsimp only <;> first
    | exact .pr (.bool _)
    | exact .dd (dead_stuck _)
    | (split
       · exact .dd (dead_unsupported _)
       · exact .pr (.string _))
theorem binOp_string (op : BinOp) (t : TypeId) (a b : ByteArray) : binOp op t (.string a) (.string b) = Op.stringOp op a b := by cases op <;> rfl
theorem binOp_shl (t : TypeId) (k k' : IntKind) (a b : Int) : binOp .shl t (.int k a) (.int k' b) = Op.shift .shl k a k' b := rfl
theorem binOp_shr (t : TypeId) (k k' : IntKind) (a b : Int) : binOp .shr t (.int k a) (.int k' b) = Op.shift .shr k a k' b := rfl
set_option maxHeartbeats 4000000 in
/-- What an operator other than == and != makes. -/
theorem sim_binOp (hG : Fits P ρ) (op : BinOp) (hop : op ≠ .eql ∧ op ≠ .neq) (t : TypeId) {x x' y y' : Value} (hx : RelV ρ x x') (hy : RelV ρ y y') : SimS Pg P RelV ρ (binOp op t x y) (binOp op t x' y') := by
  have hGl : ∀ {ρ' : Ren}, ρ.le ρ' → Fits P ρ' := fun hle => hG.mono hle
  cases hx with
  | int k a =>
    cases hy with
    | int k' b =>
      cases op
      all_goals first
        | (rw [binOp_shl]; exact sim_shift _ k k' a b)
        | (rw [binOp_shr]; exact sim_shift _ k k' a b)
        | (show SimS Pg P RelV ρ (if k ≠ k' then _ else _) (if k ≠ k' then _ else _)
           split
           · exact .dd (dead_stuck _)
           · first | exact sim_intArith _ k a b | exact sim_intDiv _ k a b | exact sim_intBits _ k a b | exact sim_intCmp _ a b)
    | @ptr b b' h =>
      cases op
      all_goals first
        | exact absurd rfl hop.1
        | exact absurd rfl hop.2
        | exact .dd (dead_stuck _)
        | exact .dd (dead_unsupported _)
        | exact sim_movedNumber hG (.ptr h) (.int k a) t
        | exact (sim_behindNumber h).bd fun ρ' x x' hle hx => sim_addrMod (hG.mono hle) k (a + 1) hx.1
    | ptrNil =>
      cases op
      all_goals first
        | exact absurd rfl hop.1
        | exact absurd rfl hop.2
        | exact .dd (dead_stuck _)
        | exact .dd (dead_unsupported _)
        | exact sim_movedNumber hG .ptrNil (.int k a) t
    | _ =>
      cases op
      all_goals first
        | exact absurd rfl hop.1
        | exact absurd rfl hop.2
        | exact .dd (dead_stuck _)
        | exact .dd (dead_unsupported _)
  | string a =>
    cases hy with
    | string b =>
      rw [binOp_string]
      exact sim_stringOp op a b
    | _ =>
      cases op
      all_goals first
        | exact absurd rfl hop.1
        | exact absurd rfl hop.2
        | exact .dd (dead_stuck _)
        | exact .dd (dead_unsupported _)
  | @ptr a a' h =>
    cases hy with
    | int k n =>
      cases op
      all_goals first
        | exact absurd rfl hop.1
        | exact absurd rfl hop.2
        | exact .dd (dead_stuck _)
        | exact .dd (dead_unsupported _)
        | exact sim_movedNumber hG (.ptr h) (.int k (-n)) t
        | exact (sim_behindNumber h).bd fun ρ' x x' hle hx => sim_addrMod (hG.mono hle) k n hx.1
        | exact (sim_behindNumber h).bd fun ρ' x x' hle hx => sim_addrMod (hG.mono hle) k (n + 1) hx.1
        | (refine (sim_underlying t).bd fun ρ' d d' hle hd => ?_
           obtain rfl : d = d' := hd
           split
           · exact sim_movedPointer (hG.mono hle) ((RelV.ptr h).mono hle) (.int k n) t
           · exact sim_movedNumber (hG.mono hle) ((RelV.ptr h).mono hle) (.int k n) t)
    | @ptr b b' h' =>
      cases op
      all_goals first
        | exact absurd rfl hop.1
        | exact absurd rfl hop.2
        | exact .dd (dead_stuck _)
        | exact .dd (dead_unsupported _)
        | exact (sim_behindNumber h).bd fun ρ' x x' hle hx => (sim_behindNumber (h'.mono hle)).bd fun ρ2 z z' hle2 hz => sim_addrSub (hGl (hle.trans hle2)) .u64 (hx.1.mono hle2) hz.1
        | exact (sim_behindNumber h).bd fun ρ' x x' hle hx => (sim_behindNumber (h'.mono hle)).bd fun ρ2 z z' hle2 hz => sim_addrCmp (hGl (hle.trans hle2)) _ (hx.1.mono hle2) hz.1
    | _ =>
      cases op
      all_goals first
        | exact absurd rfl hop.1
        | exact absurd rfl hop.2
        | exact .dd (dead_stuck _)
        | exact .dd (dead_unsupported _)
  | ptrNil =>
    cases hy with
    | int k n =>
      cases op
      all_goals first
        | exact absurd rfl hop.1
        | exact absurd rfl hop.2
        | exact .dd (dead_stuck _)
        | exact .dd (dead_unsupported _)
        | exact sim_movedNumber hG .ptrNil (.int k (-n)) t
        | (refine (sim_underlying t).bd fun ρ' d d' hle hd => ?_
           obtain rfl : d = d' := hd
           split
           · exact sim_movedPointer (hG.mono hle) .ptrNil (.int k n) t
           · exact sim_movedNumber (hG.mono hle) .ptrNil (.int k n) t)
    | _ =>
      cases op
      all_goals first
        | exact absurd rfl hop.1
        | exact absurd rfl hop.2
        | exact .dd (dead_stuck _)
        | exact .dd (dead_unsupported _)
  | _ =>
    cases hy <;> cases op
    all_goals first
      | exact absurd rfl hop.1
      | exact absurd rfl hop.2
      | exact .dd (dead_stuck _)
      | exact .dd (dead_unsupported _)
end

end Go.Proofs.YtepbidaoloplbaaDoor

namespace Go.Proofs.YtepbidaoloplbaaDoor
open Go

section
variable {Pg P : Program} [Kin Pg P] {ρ : Ren}

/-- The end of an index. -/
def idxEnd (t : TypeId) (k : IntKind) (i : Int) (base : Option Addr) (len : Nat) (elem : TypeId) : Sem Value := do
  let tiny := len ≤ 1 && (match ← underlying t with | .array .. => true | _ => false)
  match base with
  | some a =>
    if 0 ≤ i ∧ i < len then pure (.pointer (some (a.add (i.toNat * (← sizeOf elem)))))
    else if tiny then unsupported (.noEntry "op/indexAddr.an index out of range at an array of length 0 or 1 (ledger 616)")
    else boundsPanic k i len .index
  | none => boundsPanic k i 0 .index
theorem sim_idxNone (t : TypeId) (k : IntKind) (i : Int) (len : Nat) (elem : TypeId) (s' : Sem Value) : SimS Pg P RelV ρ (idxEnd t k i none len elem) s' := .dd (dead_bind (tame_underlying _) fun _ => dead_boundsPanic _ _ _ _)
theorem sim_idxSome (t : TypeId) (k : IntKind) (i : Int) {u u' : Addr} (hu : RelA ρ u u') (len : Nat) (elem : TypeId) : SimS Pg P RelV ρ (idxEnd t k i (some u) len elem) (idxEnd t k i (some u') len elem) := by
  unfold idxEnd
  refine (sim_underlying t).bd fun ρ3 d d' hle3 hd => ?_
  obtain rfl : d = d' := hd
  dsimp only
  split
  · refine (sim_sizeOf elem).bd fun ρ4 s s' hle4 hs => ?_
    obtain rfl : s = s' := hs
    exact .pr (.ptr (((hu.mono hle3).mono hle4).add _))
  · refine .dd ?_
    split <;> split <;> first | exact dead_unsupported _ | exact dead_boundsPanic _ _ _ _
theorem sim_indexAt {t : TypeId} {x x' i i' : Value} (hx : RelV ρ x x') (hi : RelV ρ i i') : SimS Pg P RelV ρ (Instr.indexAt t x i) (Instr.indexAt t x' i') := by
  unfold Instr.indexAt
  refine (sim_asIntOf hi).bd fun ρ1 n n' hle hn => ?_
  obtain rfl : n = n' := hn
  obtain ⟨k, n⟩ := n
  refine (sim_underlying t).bd fun ρ2 d d' hle2 hd => ?_
  obtain rfl : d = d' := hd
  replace hx := (hx.mono hle).mono hle2
  cases d with
  | array len elem => exact (sim_sureAddr hx).bd fun ρ3 u u' _ hu => sim_idxSome t k n hu len elem
  | slice elem =>
    cases hx with
    | sliceNil => exact sim_idxNone t k n 0 elem _
    | slice len c h => exact sim_idxSome t k n h len elem
    | _ => exact .dd (dead_left (dead_stuck _))
  | _ => exact .dd (dead_left (dead_stuck _))
theorem sim_part {t : TypeId} {x x' : Array Value} (hx : RelR ρ x x') (off : Nat) : SimS Pg P RelV ρ (part t x off) (part t x' off) := by
  unfold part
  refine (sim_isAgg t).bd fun ρ1 b b' hle hb => ?_
  obtain rfl : b = b' := hb
  replace hx := hx.mono hle
  cases b
  · rcases hx.get off with ⟨h1, h2⟩ | ⟨v, v', h1, h2, hv⟩
    · simp only [h1, h2]
      exact .dd (dead_stuck _)
    · simp only [h1, h2]
      exact .pr hv
  · refine (sim_sizeOf t).bd fun ρ2 s s' hle2 hs => ?_
    obtain rfl : s = s' := hs
    exact .pr ((hx.mono hle2).extract _ _).agg
theorem sim_index {t : TypeId} {x x' i i' : Value} (hx : RelV ρ x x') (hi : RelV ρ i i') : SimS Pg P RelV ρ (Instr.index t x i) (Instr.index t x' i') := by
  unfold Instr.index
  refine (sim_asIntOf hi).bd fun ρ1 n n' hle hn => ?_
  obtain rfl : n = n' := hn
  obtain ⟨k, n⟩ := n
  refine (sim_underlying t).bd fun ρ2 d d' hle2 hd => ?_
  obtain rfl : d = d' := hd
  replace hx := (hx.mono hle).mono hle2
  cases hx with
  | @agg x x' hs h =>
    cases d
    all_goals first
      | exact .dd (dead_stuck _)
      | (dsimp only
         split
         · refine (sim_sizeOf _).bd fun ρ3 s s' hle3 hs' => ?_
           obtain rfl : s = s' := hs'
           exact sim_part ((show RelR _ x x' from ⟨hs, h⟩).mono hle3) _
         · exact .dd (dead_boundsPanic _ _ _ _))
  | string s =>
    cases d
    all_goals first
      | exact .dd (dead_stuck _)
      | (dsimp only
         split
         · exact .pr (.int _ _)
         · exact .dd (dead_boundsPanic _ _ _ _))
  | _ => cases d <;> exact .dd (dead_stuck _)
theorem sim_extract {x x' : Value} (hx : RelV ρ x x') (i : Nat) : SimS Pg P RelV ρ (Instr.extract x i) (Instr.extract x' i) := by
  unfold Instr.extract
  cases hx with
  | @tuple x x' hs h =>
    rcases (show RelR ρ x x' from ⟨hs, h⟩).get i with ⟨h1, h2⟩ | ⟨v, v', h1, h2, hv⟩
    · simp only [h1, h2]
      exact .dd (dead_stuck _)
    · simp only [h1, h2]
      exact .pr hv
  | _ => exact .dd (dead_stuck _)
theorem sim_sliceBound {v v' : Value} (h : RelV ρ v v') (y : Nat) (c : BoundsCode) : SimS Pg P (fun _ a b => a = b ∧ a ≤ y) ρ (Instr.sliceBound v y c) (Instr.sliceBound v' y c) := by
  unfold Instr.sliceBound
  refine (sim_asIntOf h).bd fun ρ1 n n' hle hn => ?_
  obtain rfl : n = n' := hn
  dsimp only
  split
  · rename_i hb
    exact .pr ⟨rfl, by omega⟩
  · exact .dd (dead_boundsPanic _ _ _ _)
/-- Operands that may be left out. -/
def RelM (ρ : Ren) (a b : Option Value) : Prop := (a = none ∧ b = none) ∨ ∃ v v', a = some v ∧ b = some v' ∧ RelV ρ v v'
theorem RelM.mono {ρ ρ' : Ren} (hle : ρ.le ρ') {a b : Option Value} (h : RelM ρ a b) : RelM ρ' a b := h.imp id fun ⟨v, v', h1, h2, h3⟩ => ⟨v, v', h1, h2, h3.mono hle⟩
theorem sim_sliceBounds {lo lo' hi hi' mx mx' : Option Value} (h1 : RelM ρ lo lo') (h2 : RelM ρ hi hi') (h3 : RelM ρ mx mx') (sl : Bool) (n c : Nat) : SimS Pg P (fun _ a b => a = b ∧ a.2.2 ≤ c ∧ (a.2.1 ≤ a.2.2 ∨ a.2.1 = n)) ρ (Instr.sliceBounds sl n c lo hi mx) (Instr.sliceBounds sl n c lo' hi' mx') := by
  unfold Instr.sliceBounds
  have B : ∀ {ρ' : Ren} {v v' : Value}, RelV ρ v v' → ρ.le ρ' → ∀ y c, SimS Pg P (fun _ a b => a = b ∧ a ≤ y) ρ' (Instr.sliceBound v y c) (Instr.sliceBound v' y c) := fun h hle y c => sim_sliceBound (h.mono hle) y c
  rcases h3 with ⟨rfl, rfl⟩ | ⟨u, u', rfl, rfl, r3⟩
  · rcases h2 with ⟨rfl, rfl⟩ | ⟨v, v', rfl, rfl, r2⟩
    · rcases h1 with ⟨rfl, rfl⟩ | ⟨z, z', rfl, rfl, r1⟩
      · exact .pr ⟨rfl, Nat.le_refl _, .inr rfl⟩
      · refine (B r1 (.refl _) _ _).bd fun ρ1 m m' hle hm => ?_
        obtain ⟨rfl, _⟩ := hm
        exact .pr ⟨rfl, Nat.le_refl _, .inr rfl⟩
    · refine (B r2 (.refl _) _ _).bd fun ρ1 m m' hle hm => ?_
      obtain ⟨rfl, hm⟩ := hm
      rcases h1 with ⟨rfl, rfl⟩ | ⟨z, z', rfl, rfl, r1⟩
      · exact .pr ⟨rfl, Nat.le_refl _, .inl hm⟩
      · refine (B r1 hle _ _).bd fun ρ2 k k' hle2 hk => ?_
        obtain ⟨rfl, _⟩ := hk
        exact .pr ⟨rfl, Nat.le_refl _, .inl hm⟩
  · refine (B r3 (.refl _) _ _).bd fun ρ0 q q' hle0 hq => ?_
    obtain ⟨rfl, hq⟩ := hq
    rcases h2 with ⟨rfl, rfl⟩ | ⟨v, v', rfl, rfl, r2⟩
    · exact .dd (dead_left (dead_stuck _))
    · refine (B r2 hle0 _ _).bd fun ρ1 m m' hle hm => ?_
      obtain ⟨rfl, hm⟩ := hm
      rcases h1 with ⟨rfl, rfl⟩ | ⟨z, z', rfl, rfl, r1⟩
      · exact .pr ⟨rfl, hq, .inl hm⟩
      · refine (B r1 (hle0.trans hle) _ _).bd fun ρ2 k k' hle2 hk => ?_
        obtain ⟨rfl, _⟩ := hk
        exact .pr ⟨rfl, hq, .inl hm⟩
theorem sim_slice {t : TypeId} {x x' : Value} {lo lo' hi hi' mx mx' : Option Value} (hx : RelV ρ x x') (h1 : RelM ρ lo lo') (h2 : RelM ρ hi hi') (h3 : RelM ρ mx mx') : SimS Pg P RelV ρ (Instr.slice t x lo hi mx) (Instr.slice t x' lo' hi' mx') := by
  unfold Instr.slice
  refine (sim_underlying t).bd fun ρ1 d d' hle hd => ?_
  obtain rfl : d = d' := hd
  replace hx := hx.mono hle
  replace h1 := h1.mono hle
  replace h2 := h2.mono hle
  replace h3 := h3.mono hle
  have arr : ∀ {a a' : Addr} (arr : TypeId), RelA ρ1 a a' → SimS Pg P RelV ρ1 (do
      let .array n elem ← underlying arr | stuck "Slice: array type expected"
      let (l, h, m) ← Instr.sliceBounds false n n lo hi mx
      let size ← sizeOf elem
      pure (.slice (some (if m = l then a else a.add (l * size))) (h - l) (m - l))) (do
      let .array n elem ← underlying arr | stuck "Slice: array type expected"
      let (l, h, m) ← Instr.sliceBounds false n n lo' hi' mx'
      let size ← sizeOf elem
      pure (.slice (some (if m = l then a' else a'.add (l * size))) (h - l) (m - l))) := by
    intro a a' arr h
    refine (sim_underlying arr).bd fun ρ2 d d' hle2 hd => ?_
    obtain rfl : d = d' := hd
    cases d
    all_goals first
      | exact .dd (dead_stuck _)
      | (refine (sim_sliceBounds (h1.mono hle2) (h2.mono hle2) (h3.mono hle2) _ _ _).bd fun ρ3 q q' hle3 hq => ?_
         obtain ⟨rfl, _⟩ := hq
         refine (sim_sizeOf _).bd fun ρ4 s s' hle4 hs => ?_
         obtain rfl : s = s' := hs
         refine .pr (.slice _ _ ?_)
         split
         · exact ((h.mono hle2).mono hle3).mono hle4
         · exact (((h.mono hle2).mono hle3).mono hle4).add _)
  cases hx with
  | string s =>
    cases d
    all_goals first
      | exact .dd (dead_stuck _)
      | exact .dd (dead_left (dead_stuck _))
      | (rcases h3 with ⟨rfl, rfl⟩ | ⟨u, u', rfl, rfl, _⟩
         · refine (sim_sliceBounds h1 h2 (.inl ⟨rfl, rfl⟩) _ _ _).bd fun ρ3 q q' hle3 hq => ?_
           obtain ⟨rfl, _⟩ := hq
           exact .pr (.string _)
         · exact .dd (dead_left (dead_stuck _)))
  | sliceNil =>
    cases d
    all_goals first
      | exact .dd (dead_stuck _)
      | exact .dd (dead_left (dead_stuck _))
      | (refine (sim_sliceBounds h1 h2 h3 _ _ _).bd fun ρ3 q q' hle3 hq => ?_
         obtain ⟨rfl, hq1, hq2⟩ := hq
         refine (sim_sizeOf _).bd fun ρ4 s s' hle4 hs => ?_
         obtain rfl : s = s' := hs
         obtain ⟨l, h, m⟩ := q
         simp only at hq1 hq2
         have e1 : h - l = 0 := by omega
         have e2 : m - l = 0 := by omega
         refine .pr ?_
         dsimp only
         rw [e1, e2]
         split
         · exact .sliceNil
         · exact .sliceNil)
  | slice n c h =>
    cases d
    all_goals first
      | exact .dd (dead_stuck _)
      | exact .dd (dead_left (dead_stuck _))
      | (refine (sim_sliceBounds h1 h2 h3 _ _ _).bd fun ρ3 q q' hle3 hq => ?_
         obtain ⟨rfl, _⟩ := hq
         refine (sim_sizeOf _).bd fun ρ4 s s' hle4 hs => ?_
         obtain rfl : s = s' := hs
         refine .pr ?_
         split
         · exact .slice _ _ ((h.mono hle3).mono hle4)
         · exact .slice _ _ (((h.mono hle3).mono hle4).add _))
  | ptr h =>
    cases d
    all_goals first
      | exact .dd (dead_stuck _)
      | exact arr _ h
  | ptrNil =>
    cases d
    all_goals first
      | exact .dd (dead_stuck _)
      | exact .dd (dead_left (show Dead Pg (runtimePanic .nilDeref : Sem Addr) from dead_runtimePanic _))
  | _ =>
    cases d
    all_goals first
      | exact .dd (dead_stuck _)
      | exact .dd (dead_left (dead_stuck _))
theorem sim_sliceAt {t : TypeId} {x x' : Value} {lo lo' hi hi' mx mx' : Option Value} (hx : RelV ρ x x') (h1 : RelM ρ lo lo') (h2 : RelM ρ hi hi') (h3 : RelM ρ mx mx') : SimS Pg P RelV ρ (Instr.sliceAt t x lo hi mx) (Instr.sliceAt t x' lo' hi' mx') := by
  unfold Instr.sliceAt
  refine (sim_underlying t).bd fun ρ1 d d' hle hd => ?_
  obtain rfl : d = d' := hd
  replace hx := hx.mono hle
  replace h1 := h1.mono hle
  replace h2 := h2.mono hle
  replace h3 := h3.mono hle
  cases d
  all_goals first
    | exact sim_slice hx h1 h2 h3
    | (refine (sim_sureAddr hx).bd fun ρ2 a a' hle2 ha => ?_
       refine (sim_sliceBounds (h1.mono hle2) (h2.mono hle2) (h3.mono hle2) _ _ _).bd fun ρ3 q q' hle3 hq => ?_
       obtain ⟨rfl, _⟩ := hq
       refine (sim_sizeOf _).bd fun ρ4 s s' hle4 hs => ?_
       obtain rfl : s = s' := hs
       refine .pr (.slice _ _ ?_)
       split
       · exact (ha.mono hle3).mono hle4
       · exact ((ha.mono hle3).mono hle4).add _)
end

end Go.Proofs.YtepbidaoloplbaaDoor
