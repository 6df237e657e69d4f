/-
  A part of the proof.
-/
import Derived.Test.YtnpffnhiefgglaaGreatDoorParw04
import Derived.Conc.Own
import Derived.Laws.Sem
namespace Go.Proofs.YtnpffnhiefgglaaGreatDoor
open Go
set_option maxRecDepth 100000
inductive RelN (ρ : Ren) : Next → Next → Prop
  | value {v v' : Value} (h : RelV ρ v v') : RelN ρ (.value v) (.value v')
  | skip : RelN ρ .skip .skip
  | enter (f : FuncId) {x x' : Array Value} (hA : ρ.A f ∨ ρ.D f x.size) (h : RelR ρ x x') : RelN ρ (.enter f x) (.enter f x')
structure Globs where
  g : Nat → Bool
  d : Nat → Nat → Bool
instance : CoeFun Globs (fun _ => Nat → Bool) := ⟨Globs.g⟩
def okX (Gl : Globs) (Al : Nat → Bool) : Operand → Bool
  | .tmp _ => true
  | .const v => flatC v
  | .global g => Gl g
  | .func f => Al f
def isInt (P : Program) (t : TypeId) : Bool := match P.underlying t with | some (.int _) => true | _ => false
def noChan (P : Program) (t : TypeId) : Bool := match P.underlying t with | some (.chan _ _) => false | _ => true
def bytesStr (P : Program) (s d : TypeId) : Bool := match P.underlying s, P.underlying d with
  | some (.slice e), some .string => (match P.underlying e with | some (.int .u8) => true | _ => false)
  | _, _ => false
def okCall (P : Program) (Gl : Globs) (Al : Nat → Bool) (c : Call) : Bool :=
  c.args.toList.all (okX Gl Al) && match c.callee with
  | .value f => okX Gl Al f || (match f with | .func h => Gl.d h c.args.size | _ => false)
  | .builtin .append => c.args.size == 2 && c.argTypes.size == 2 && okElem P (c.argTypes.getD 0 0)
  | .builtin .len => c.args.size == 1 && c.argTypes.size == 1
  | .builtin .min => c.args.size == 2
  | .builtin .cap => c.args.size == 1 && c.argTypes.size == 1 && noChan P (c.argTypes.getD 0 0)
  | .builtin .clear => c.args.size == 1 && c.argTypes.size == 1 && okElem P (c.argTypes.getD 0 0)
  | _ => false
def okOp (P : Program) (Gl : Globs) (Al : Nat → Bool) : Op → Bool
  | .move x | .assign x | .box _ x | .load _ x | .nilCheck x | .unOp _ _ x | .extract x _ | .sliceToArrayPointer _ x => okX Gl Al x
  | .pick a b c => okX Gl Al a && okX Gl Al b && okX Gl Al c
  | .alloc e => okZero P e
  | .store _ a x => okX Gl Al a && okX Gl Al x
  | .binOp op t x y _ => okX Gl Al x && okX Gl Al y && ((op != .eql && op != .neq) || eqOk P t y)
  | .convert s d x => okX Gl Al x && ((isInt P s && isInt P d) || bytesStr P s d)
  | .build t p => okZero P t && p.toList.all fun x => okX Gl Al x.2
  | .buildSlice t _ p => okElem P t && p.toList.all fun x => okX Gl Al x.2
  | .fieldAddr s x f => okX Gl Al x && fullField P s f
  | .makeInterface _ x => okX Gl Al x
  | .panic _ => true
  | .makeFunc (.func f) x y => Al f && x.toList.all (okX Gl Al) && y.toList.all (okX Gl Al)
  | .makeSlice t l c => okX Gl Al l && okX Gl Al c && okElem P t
  | .slice _ x lo hi mx => okX Gl Al x && lo.all (okX Gl Al) && hi.all (okX Gl Al) && mx.all (okX Gl Al)
  | .indexAddr _ x i | .index _ x i => okX Gl Al x && okX Gl Al i
  | .call c => okCall P Gl Al c
  | _ => false
def RelE (ρ : Ren) (Gl : Globs) (Al : Nat → Bool) (ev ev' : Operand → Value) : Prop := ∀ x, okX Gl Al x = true → RelV ρ (ev x) (ev' x)
section
variable {Pg P : Program} [Kin Pg P] {ρ : Ren} {Gl : Globs} {Al : Nat → Bool} {ev ev' : Operand → Value}
theorem RelE.map (h : RelE ρ Gl Al ev ev') {l : Array Operand} (hl : l.toList.all (okX Gl Al) = true) : RelR ρ (l.map ev) (l.map ev') := by
  refine ⟨by simp, fun i v v' h1 h2 => ?_⟩
  rw [Array.getElem?_map] at h1 h2
  cases hx : l[i]? with
  | none => rw [hx] at h1; cases h1
  | some x =>
    rw [hx] at h1 h2
    cases h1; cases h2
    have hm : x ∈ l := Array.mem_of_getElem? hx
    exact h x (List.all_eq_true.1 hl x (by simpa using hm))
theorem RelE.opt (h : RelE ρ Gl Al ev ev') {o : Option Operand} (ho : o.all (okX Gl Al) = true) : RelM ρ (o.map ev) (o.map ev') := by
  cases o with
  | none => exact .inl ⟨rfl, rfl⟩
  | some x => exact .inr ⟨_, _, rfl, rfl, h x (by simpa using ho)⟩
theorem RelE.parts (h : RelE ρ Gl Al ev ev') {l : Array (Nat × Operand)} (hl : (l.toList.all fun x => okX Gl Al x.2) = true) : RelP ρ (l.map fun (i, x) => (i, ev x)).toList (l.map fun (i, x) => (i, ev' x)).toList := by
  rw [Array.toList_map, Array.toList_map]
  generalize l.toList = k at hl
  induction k with
  | nil => exact .nil
  | cons a k ih =>
    simp only [List.all_cons, Bool.and_eq_true] at hl
    exact .cons ⟨rfl, h a.2 hl.1⟩ (ih hl.2)
theorem bytesStr_some {s d : TypeId} (h : bytesStr P s d = true) : ∃ e, P.underlying s = some (.slice e) ∧ P.underlying d = some .string ∧ P.underlying e = some (.int .u8) := by
  unfold bytesStr at h
  split at h
  · rename_i e h1 h2
    split at h
    · exact ⟨e, h1, h2, by assumption⟩
    · cases h
  · cases h
theorem isInt_some {t : TypeId} (h : isInt P t = true) : ∃ k, P.underlying t = some (.int k) := by
  unfold isInt at h
  split at h
  · exact ⟨_, by assumption⟩
  · cases h
theorem sim_value {s s' : Sem Value} (h : SimS Pg P RelV ρ s s') : SimS Pg P RelN ρ (do pure (.value (← s))) (do pure (.value (← s'))) := h.bd fun _ _ _ _ hv => .pr (.value hv)
theorem sim_unit {s s' : Sem Unit} (h : SimS Pg P Same ρ s s') : SimS Pg P RelN ρ (do s; pure .skip) (do s'; pure .skip) := h.bd fun _ _ _ _ _ => .pr .skip
theorem sim_unary (op : UnOp) {x x' : Value} (hx : RelV ρ x x') : SimS Pg P RelV ρ (Op.unary op x) (Op.unary op x') := by
  cases hx with
  | int k n =>
    cases op with
    | neg => exact sim_intArith .sub k 0 n
    | xor => exact sim_intBits .xor k _ n
    | _ => exact .dd (dead_stuck _)
  | bool b => cases op <;> first | exact .pr (.bool _) | exact .dd (dead_stuck _)
  | _ => cases op <;> first | exact .dd (dead_stuck _) | exact .dd (dead_unsupported _)
theorem sim_arrayAt (t : TypeId) {x x' : Value} (hx : RelV ρ x x') : SimS Pg P RelV ρ (Instr.arrayAt t x) (Instr.arrayAt t x') := by
  unfold Instr.arrayAt
  refine (sim_underlying t).bd fun ρ1 d d' hle hd => ?_
  obtain rfl : d = d' := hd
  cases d with
  | array n e =>
    cases hx with
    | sliceNil =>
      dsimp only
      split
      · exact .dd (dead_runtimePanic _)
      · exact .pr .ptrNil
    | slice len c h =>
      dsimp only
      split
      · exact .dd (dead_runtimePanic _)
      · exact .pr (.ptr (h.mono hle))
    | _ => exact .dd (dead_stuck _)
  | _ => exact .dd (dead_stuck _)
def Bodies (Pg P : Program) (ρ : Ren) : Prop := ∀ f, (ρ.A f ∨ ∃ n, ρ.D f n) → (∃ fn, Pg.funcs[f]? = some fn ∧ (fn.name == "runtime.NumGoroutine") = false ∧ fn.body.isNone = false) ∧ ∃ fn, P.funcs[f]? = some fn ∧ (fn.name == "runtime.NumGoroutine") = false ∧ fn.body.isNone = false
theorem sim_callFunc (hB : Bodies Pg P ρ) (f : FuncId) {x x' : Array Value} (hA : ρ.A f ∨ ρ.D f x.size) (hx : RelR ρ x x') : SimS Pg P RelN ρ (callFunc f x) (callFunc f x') := by
  obtain ⟨⟨fg, g1, g2, g3⟩, fn, h1, h2, h3⟩ := hB f (hA.imp id fun h => ⟨_, h⟩)
  refine .program ?_
  show SimS Pg P RelN ρ (match Pg.funcs[f]? with | none => _ | some fn => _) (match P.funcs[f]? with | none => _ | some fn => _)
  rw [h1, g1]
  dsimp only
  rw [h2, h3, g2, g3]
  exact .pr (.enter f hA hx)
theorem sim_callValue (hB : Bodies Pg P ρ) {v v' : Value} {x x' : Array Value} (hv : RelV ρ v v') (hx : RelR ρ x x') : SimS Pg P RelN ρ (do let d ← Deferred.ofValue v x; invoke d.target d.args) (do let d ← Deferred.ofValue v' x'; invoke d.target d.args) := by
  cases hv with
  | @func f a a' b b' hA h1 h2 h3 h4 => exact sim_callFunc hB f (.inl hA) ((RelR.append ⟨h1, h2⟩ hx).append ⟨h3, h4⟩)
  | nilFunc => exact .dd (show Dead Pg (runtimePanic .nilDeref : Sem Next) from dead_runtimePanic _)
  | _ => exact .dd (dead_left (dead_stuck _))
theorem two_of {α : Type} {x : Array α} (h : x.size = 2) : ∃ a b, x = #[a, b] := by
  match x, h with
  | ⟨[a, b]⟩, _ => exact ⟨a, b, rfl⟩
theorem one_of {α : Type} {x : Array α} (h : x.size = 1) : ∃ a, x = #[a] := by
  match x, h with
  | ⟨[a]⟩, _ => exact ⟨a, rfl⟩
theorem map_two {α β : Type} (f : α → β) (a b : α) : (#[a, b] : Array α).map f = #[f a, f b] := by simp
theorem map_one {α β : Type} (f : α → β) (a : α) : (#[a] : Array α).map f = #[f a] := by simp
theorem sim_execOp (hC : ∀ v, ev (.const v) = v ∧ ev' (.const v) = v) (hFn : ∀ f, ev (.func f) = .func (.func f) #[] #[] ∧ ev' (.func f) = .func (.func f) #[] #[]) (hD : ∀ f n, Gl.d f n = true → ρ.D f n) (hB : Bodies Pg P ρ) (hG : Fits P ρ) (hAl : ∀ f, Al f = true → ρ.A f) (hE : RelE ρ Gl Al ev ev') (o : Oper) (ho : okOp P Gl Al o.op = true) : SimS Pg P RelN ρ (execOp ev o) (execOp ev' o) := by
  obtain ⟨dst, op, type, pos, after, guard⟩ := o
  simp only at ho
  cases op with
  | move x => exact .pr (.value (hE x ho))
  | assign x => exact .pr (.value (hE x ho))
  | pick a b c =>
    simp only [okOp, Bool.and_eq_true] at ho
    refine (sim_asBool (hE a ho.1.1)).bd fun ρ1 z z' hle hz => ?_
    obtain rfl : z = z' := hz
    refine .pr (.value ?_)
    split
    · exact (hE b ho.1.2).mono hle
    · exact (hE c ho.2).mono hle
  | alloc e => exact sim_value ((sim_zeroValue ho).bd fun ρ1 z z' _ hz => (sim_newVar e hz).bd fun ρ2 a a' _ ha => .pr (.ptr ha))
  | box e x => exact sim_value ((sim_newVar e (hE x ho)).bd fun ρ2 a a' _ ha => .pr (.ptr ha))
  | load t a => exact sim_value ((sim_sureAddr (hE a ho)).bd fun ρ1 u u' _ hu => sim_loadVar hu t)
  | store t a x =>
    simp only [okOp, Bool.and_eq_true] at ho
    exact sim_unit ((sim_sureAddr (hE a ho.1)).bd fun ρ1 u u' hle hu => sim_storeVar hu ((hE x ho.2).mono hle) t)
  | nilCheck x =>
    have hx := hE x ho
    show SimS Pg P RelN ρ (match ev x with | .pointer none | .nilIface | .nilFunc => _ | .func (.method name) first captured => _ | x => _) (match ev' x with | .pointer none | .nilIface | .nilFunc => _ | .func (.method name) first captured => _ | x => _)
    generalize ev x = v at hx
    generalize ev' x = v' at hx
    cases hx with
    | ptrNil => exact .dd (dead_runtimePanic _)
    | nilIface => exact .dd (dead_runtimePanic _)
    | nilFunc => exact .dd (dead_runtimePanic _)
    | ptr h => exact .pr (.value (.ptr h))
    | bool b => exact .pr (.value (.bool b))
    | int k n => exact .pr (.value (.int k n))
    | string s => exact .pr (.value (.string s))
    | sliceNil => exact .pr (.value .sliceNil)
    | slice n c h => exact .pr (.value (.slice n c h))
    | mapNil => exact .pr (.value .mapNil)
    | chanNil => exact .pr (.value .chanNil)
    | func f hA hx h1 hy h2 => exact .pr (.value (.func f hA hx h1 hy h2))
    | iface t h => exact .pr (.value (.iface t h))
    | agg hx h => exact .pr (.value (.agg hx h))
    | tuple hx h => exact .pr (.value (.tuple hx h))
  | binOp op t x y r =>
    simp only [okOp, Bool.and_eq_true] at ho
    refine sim_value ?_
    by_cases hop : op = .eql ∨ op = .neq
    · have ht : eqOk P t y = true := by rcases hop with rfl | rfl <;> simpa using ho.2
      have hn : y = .const .nilIface → ev y = .nilIface ∧ ev' y = .nilIface := fun e => by rw [e]; exact hC _
      exact (sim_eqGuard op ht (hE x ho.1.1) (hE y ho.1.2) hn).bd fun ρ1 _ _ hle _ => sim_binEq (hG.mono hle) hop ht ((hE x ho.1.1).mono hle) ((hE y ho.1.2).mono hle) hn
    · have hne : op ≠ .eql ∧ op ≠ .neq := ⟨fun e => hop (.inl e), fun e => hop (.inr e)⟩
      have hg : SimS Pg P Same ρ (eqGuard op t x y (ev x) (ev y)) (eqGuard op t x y (ev' x) (ev' y)) := by
        unfold eqGuard
        cases op <;> first | exact absurd rfl hne.1 | exact absurd rfl hne.2 | exact .pr rfl
      exact hg.bd fun ρ1 _ _ hle _ => sim_binOp (hG.mono hle) op hne t ((hE x ho.1.1).mono hle) ((hE y ho.1.2).mono hle)
  | build t p =>
    simp only [okOp, Bool.and_eq_true] at ho
    exact sim_value (sim_build ho.1 (hE.parts ho.2))
  | buildSlice t n p =>
    simp only [okOp, Bool.and_eq_true] at ho
    exact sim_value (sim_buildSlice ho.1 n (hE.parts ho.2))
  | fieldAddr s x f =>
    simp only [okOp, Bool.and_eq_true] at ho
    exact sim_value (sim_fieldAt s (hE x ho.1) f ho.2)
  | makeInterface t x => exact sim_value (sim_makeInterface t (hE x ho))
  | panic x => exact .dd (dead_left (dead_panic _))
  | unOp op t x => exact sim_value (sim_unary op (hE x ho))
  | convert s d x =>
    simp only [okOp, Bool.and_eq_true, Bool.or_eq_true] at ho
    rcases ho.2 with h | h
    · obtain ⟨k, hk⟩ := isInt_some h.1
      obtain ⟨k', hk'⟩ := isInt_some h.2
      exact sim_value (sim_convert hk hk' (hE x ho.1))
    · obtain ⟨e, h1, h2, h3⟩ := bytesStr_some h
      exact sim_value (sim_convertBytes h1 h2 h3 (hE x ho.1))
  | sliceToArrayPointer t x => exact sim_value (sim_arrayAt t (hE x ho))
  | makeFunc fn x y =>
    cases fn with
    | func f =>
      simp only [okOp, Bool.and_eq_true] at ho
      have h1 := hE.map ho.1.2
      have h2 := hE.map ho.2
      exact .pr (.value (.func f (hAl f ho.1.1) h1.1 h1.2 h2.1 h2.2))
    | _ => cases ho
  | makeSlice t l c =>
    simp only [okOp, Bool.and_eq_true] at ho
    exact sim_value (sim_makeSlice ho.2 (hE l ho.1.1) (hE c ho.1.2))
  | slice t x lo hi mx =>
    simp only [okOp, Bool.and_eq_true] at ho
    exact sim_value (sim_sliceAt (hE x ho.1.1.1) (hE.opt ho.1.1.2) (hE.opt ho.1.2) (hE.opt ho.2))
  | indexAddr t x i =>
    simp only [okOp, Bool.and_eq_true] at ho
    exact sim_value (sim_indexAt (hE x ho.1) (hE i ho.2))
  | index t x i =>
    simp only [okOp, Bool.and_eq_true] at ho
    exact sim_value (sim_index (hE x ho.1) (hE i ho.2))
  | extract x i => exact sim_value (sim_extract (hE x ho) i)
  | call c =>
    obtain ⟨callee, args, argTypes⟩ := c
    simp only [okOp, okCall, Bool.and_eq_true] at ho
    have hargs := hE.map ho.1
    cases callee with
    | value f =>
      have ho2 : okX Gl Al f = true ∨ ∃ h, f = .func h ∧ Gl.d h args.size = true := by
        have := ho.2
        simp only [Bool.or_eq_true] at this
        rcases this with h | h
        · exact .inl h
        · cases f <;> simp_all
      rcases ho2 with h | ⟨h, rfl, hd⟩
      · exact sim_callValue hB (hE f h) hargs
      · show SimS Pg P RelN ρ (do let d ← Deferred.ofValue (ev (.func h)) (args.map ev); invoke d.target d.args) (do let d ← Deferred.ofValue (ev' (.func h)) (args.map ev'); invoke d.target d.args)
        rw [(hFn h).1, (hFn h).2]
        exact sim_callFunc hB h (.inr (by simpa using hD h _ hd)) ((RelR.append .empty hargs).append .empty)
    | builtin b =>
      cases b with
      | append =>
        simp only [Bool.and_eq_true, beq_iff_eq] at ho
        obtain ⟨a, b, rfl⟩ := two_of ho.2.1.1
        obtain ⟨t, u, rfl⟩ := two_of ho.2.1.2
        have hl := ho.1
        simp only [List.all_cons, List.all_nil, Bool.and_true, Bool.and_eq_true] at hl
        refine sim_value (?_ : SimS Pg P RelV ρ (Builtin.append_ #[t, u] type ((#[a, b] : Array Operand).map ev)) (Builtin.append_ #[t, u] type ((#[a, b] : Array Operand).map ev')))
        rw [map_two, map_two]
        by_cases hi : ∃ k, P.underlying u = some (.int k)
        · obtain ⟨k, hk⟩ := hi
          exact sim_appendZ ho.2.2 hk (hE a hl.1) (hE b hl.2)
        · exact sim_append ho.2.2 (fun k hk => hi ⟨k, hk⟩) (hE a hl.1) (hE b hl.2)
      | len =>
        simp only [Bool.and_eq_true, beq_iff_eq] at ho
        obtain ⟨a, rfl⟩ := one_of ho.2.1
        obtain ⟨t, rfl⟩ := one_of ho.2.2
        have hl := ho.1
        simp only [List.all_cons, List.all_nil, Bool.and_true] at hl
        refine sim_value (?_ : SimS Pg P RelV ρ (Builtin.len_ #[t] type ((#[a] : Array Operand).map ev)) (Builtin.len_ #[t] type ((#[a] : Array Operand).map ev')))
        rw [map_one, map_one]
        exact sim_len (hE a hl)
      | cap =>
        simp only [Bool.and_eq_true, beq_iff_eq] at ho
        obtain ⟨a, rfl⟩ := one_of ho.2.1.1
        obtain ⟨t, rfl⟩ := one_of ho.2.1.2
        have hl := ho.1
        simp only [List.all_cons, List.all_nil, Bool.and_true] at hl
        refine sim_value (?_ : SimS Pg P RelV ρ (Builtin.cap_ #[t] type ((#[a] : Array Operand).map ev)) (Builtin.cap_ #[t] type ((#[a] : Array Operand).map ev')))
        rw [map_one, map_one]
        exact sim_cap ho.2.2 (hE a hl)
      | clear =>
        simp only [Bool.and_eq_true, beq_iff_eq] at ho
        obtain ⟨a, rfl⟩ := one_of ho.2.1.1
        obtain ⟨t, rfl⟩ := one_of ho.2.1.2
        have hl := ho.1
        simp only [List.all_cons, List.all_nil, Bool.and_true] at hl
        refine sim_value (?_ : SimS Pg P RelV ρ (Builtin.clear_ #[t] type ((#[a] : Array Operand).map ev)) (Builtin.clear_ #[t] type ((#[a] : Array Operand).map ev')))
        rw [map_one, map_one]
        exact sim_clear ho.2.2 (hE a hl)
      | min =>
        simp only [beq_iff_eq] at ho
        obtain ⟨a, b, rfl⟩ := two_of ho.2
        have hl := ho.1
        simp only [List.all_cons, List.all_nil, Bool.and_true, Bool.and_eq_true] at hl
        refine sim_value (?_ : SimS Pg P RelV ρ (Builtin.min_ argTypes type ((#[a, b] : Array Operand).map ev)) (Builtin.min_ argTypes type ((#[a, b] : Array Operand).map ev')))
        rw [map_two, map_two]
        exact sim_min (hE a hl.1) (hE b hl.2)
      | _ => exact absurd ho.2 (by simp)
    | _ => exact absurd ho.2 (by simp)
  | _ => cases ho
end
end Go.Proofs.YtnpffnhiefgglaaGreatDoor
namespace Go.Proofs.YtnpffnhiefgglaaGreatDoor
open Go Go.Conc
set_option maxRecDepth 100000
def okCode (P : Program) (Gl : Globs) (Al : Nat → Bool) : Code → Bool
  | .skip | .exit _ | .ret => true
  | .region _ ops _ => ops.toList.all fun o => okOp P Gl Al o.op
  | .seq a b => okCode P Gl Al a && okCode P Gl Al b
  | .cond c a b => okX Gl Al c && okCode P Gl Al a && okCode P Gl Al b
  | .block _ b | .loop b => okCode P Gl Al b
  | _ => false
def okItem (P : Program) (Gl : Globs) (Al : Nat → Bool) : Item → Bool
  | .code c | .inLoop c => okCode P Gl Al c
  | .inBlock _ => true
  | .inRegion ops _ => ops.toList.all fun o => okOp P Gl Al o.op
  | _ => false
structure TameP (P : Program) (Gl : Globs) (Al : Nat → Bool) : Prop where
  body : ∀ f, Al f = true → ∃ fn body, P.funcs[f]? = some fn ∧ (fn.name == "runtime.NumGoroutine") = false ∧ fn.body = some body ∧ okCode P Gl Al body = true
  shut : ∀ f n, Gl.d f n = false
structure Tame2 (Pg P : Program) (Gl : Globs) (Al : Nat → Bool) : Prop where
  body : ∀ f, Al f = true → ∃ fn body, Pg.funcs[f]? = some fn ∧ P.funcs[f]? = some fn ∧ (fn.name == "runtime.NumGoroutine") = false ∧ fn.body = some body ∧ okCode P Gl Al body = true
  door : ∀ f n, Gl.d f n = true → (∃ fn, Pg.funcs[f]? = some fn ∧ (fn.name == "runtime.NumGoroutine") = false ∧ fn.body.isNone = false) ∧ ∃ fn, P.funcs[f]? = some fn ∧ (fn.name == "runtime.NumGoroutine") = false ∧ fn.body.isNone = false
theorem TameP.two {P : Program} {Gl : Globs} {Al : Nat → Bool} (h : TameP P Gl Al) : Tame2 P P Gl Al :=
  ⟨fun f hf => let ⟨fn, body, h1, h2, h3, h4⟩ := h.body f hf; ⟨fn, body, h1, h1, h2, h3, h4⟩, fun f n hd => by rw [h.shut f n] at hd; cases hd⟩
structure RelF (P : Program) (Gl : Globs) (Al : Nat → Bool) (ρ : Ren) (fr fr' : Frame) : Prop where
  fn : fr'.fn = fr.fn
  al : Al fr.fn = true
  tmps : RelR ρ fr.tmps fr'.tmps
  todo : fr'.todo = fr.todo
  ok : ∀ i ∈ fr.todo, okItem P Gl Al i = true
  defers : fr.defers = []
  defers' : fr'.defers = []
  mode : fr'.mode = fr.mode
  run : fr.mode = .run ∨ fr.mode = .returning
  kind : fr.kind = .normal
  kind' : fr'.kind = .normal
  round : fr.roundOf = none
  round' : fr'.roundOf = none
inductive RelFs (P : Program) (Gl : Globs) (Al : Nat → Bool) (ρ : Ren) : List Frame → List Frame → Prop
  | nil : RelFs P Gl Al ρ [] []
  | cons {fr fr' : Frame} {st st' : List Frame} (h : RelF P Gl Al ρ fr fr') (hr : fr.mode = .run) (ho : ∃ ops i rest k, fr.todo = .inRegion ops (i :: rest) :: k) (hs : RelFs P Gl Al ρ st st') : RelFs P Gl Al ρ (fr :: st) (fr' :: st')
structure Sit (L : Nat) (P : Program) (Gl : Globs) (Al : Nat → Bool) (Sh : Nat → Prop) (ρ : Ren) (w w' : World) : Prop where
  rel : RelW L Sh ρ w w'
  sh : ∀ b, Sh b → b < w.heap.size
  hG : Fits P ρ
  hA : ρ.A = fun f => Al f = true
  hD : ρ.D = fun f n => Gl.d f n = true
  gl : ∀ g, Gl g = true → ρ g g ∧ ρ.lo g = 0
  big : P.globals.size ≤ w.heap.size
section
variable {L : Nat} {P : Program} {Gl : Globs} {Al : Nat → Bool} {Sh : Nat → Prop} {ρ ρ1 : Ren} {w w' w1 w1' : World} {fr fr' : Frame} {st st' : List Frame}
def follow (w w' : World) : World := { w' with tape := fun i q => w.tape (i - w'.drawn + w.drawn) q }
theorem RelW.follow (h : RelW L Sh ρ w w') (L' : Nat) : RelW L' Sh ρ w (follow w w') := by
  refine ⟨h.obj, h.fn, h.inj, h.low0, fun i q _ => ?_, h.shared⟩
  show w.tape (w.drawn + i) q = w.tape (w'.drawn + i - w'.drawn + w.drawn) q
  rw [Nat.add_sub_cancel_left, Nat.add_comm]
theorem RelW.retape (h : RelW L Sh ρ w w') {τ τ' : Nat → Question → Nat} {d d' L' : Nat} (ht : ∀ i q, d + i < L' → τ (d + i) q = τ' (d' + i) q) : RelW L' Sh ρ { w with tape := τ, drawn := d } { w' with tape := τ', drawn := d' } := ⟨h.obj, h.fn, h.inj, h.low0, ht, h.shared⟩
theorem RelF.mono (hle : ρ.le ρ1) (h : RelF P Gl Al ρ fr fr') : RelF P Gl Al ρ1 fr fr' := { h with tmps := h.tmps.mono hle }
theorem RelFs.mono (hle : ρ.le ρ1) (h : RelFs P Gl Al ρ st st') : RelFs P Gl Al ρ1 st st' := by
  induction h with
  | nil => exact .nil
  | cons h hr ho _ ih => exact .cons (h.mono hle) hr ho ih
theorem Sit.step (h : Sit L P Gl Al Sh ρ w w') (hw : RelW L Sh ρ1 w1 w1') (hf : Frm Sh ρ ρ1 w w1 w' w1') : Sit L P Gl Al Sh ρ1 w1 w1' :=
  ⟨hw, fun b hb => Nat.lt_of_lt_of_le (h.sh b hb) hf.size, h.hG.mono hf.le, hf.le.2.1.trans h.hA, hf.le.dd.trans h.hD, fun g hg => ⟨hf.le.app (h.gl g hg).1, by rw [hf.le.lo]; exact (h.gl g hg).2⟩, Nat.le_trans h.big hf.size⟩
theorem Tame2.bodies {Pg : Program} (h : Tame2 Pg P Gl Al) (hA : ρ.A = fun f => Al f = true) (hD : ρ.D = fun f n => Gl.d f n = true) : Bodies Pg P ρ := fun f hf => by
  rw [hA, hD] at hf
  rcases hf with hf | ⟨n, hf⟩
  · obtain ⟨fn, body, h1, h1', h2, h3, _⟩ := h.body f hf
    exact ⟨⟨fn, h1, h2, by simp [h3]⟩, fn, h1', h2, by simp [h3]⟩
  · exact h.door f n hf
theorem TameP.bodies (h : TameP P Gl Al) (hA : ρ.A = fun f => Al f = true) (hD : ρ.D = fun f n => Gl.d f n = true) : Bodies P P ρ := h.two.bodies hA hD
theorem RelR.getD {x x' : Array Value} (h : RelR ρ x x') (i : Nat) {d d' : Value} (hd : RelV ρ d d') : RelV ρ (x.getD i d) (x'.getD i d') := by
  rcases h.get i with ⟨h1, h2⟩ | ⟨v, v', h1, h2, hv⟩
  · simp only [Array.getD_eq_getD_getElem?, h1, h2, Option.getD_none]; exact hd
  · simp only [Array.getD_eq_getD_getElem?, h1, h2, Option.getD_some]; exact hv
theorem rel_undef : RelV ρ undef undef := RelR.tuple .empty
theorem RelF.eval (h : RelF P Gl Al ρ fr fr') (hs : Sit L P Gl Al Sh ρ w w') : RelE ρ Gl Al fr.eval fr'.eval := fun x hx => by
  cases x with
  | tmp t => exact h.tmps.getD t rel_undef
  | const v => exact flatC_rel hx
  | global g => exact .ptr ⟨(hs.gl g hx).1, rfl, rfl, fun _ => rfl, by show ρ.lo g ≤ 0 + 1; rw [(hs.gl g hx).2]; omega⟩
  | func f => exact .func f (by rw [hs.hA]; exact hx) rfl (fun i v v' k => by simp at k) rfl (fun i v v' k => by simp at k)
theorem yielded_same (h : RelR ρ fr.tmps fr'.tmps) (ops : Array Oper) : yielded ops fr.tmps = yielded ops fr'.tmps := by
  funext j
  unfold yielded
  cases hd : (ops[j]?).bind (·.dst) with
  | none => rfl
  | some d =>
    rcases h.get d with ⟨h1, h2⟩ | ⟨v, v', h1, h2, hv⟩
    · simp [h1, h2]
    · simp only [Option.bind_some, h1, h2]
      cases hv <;> rfl
theorem seen_sub (fn : FuncId) (es : Array Event) {e : Event} (h : e ∈ seen P fn es) : e ∈ es := by
  have key : ∀ (l : List Event) (q : Bool) (kept : Array Event), ∀ e ∈ (l.foldl (fun (x : Bool × Array Event) e => match e.loc with | .mark (.extern f) => ((P.funcs[f]?).any (·.norace), x.2) | _ => (x.1, if x.1 && !e.sync then x.2 else x.2.push e)) (q, kept)).2, e ∈ kept ∨ e ∈ l := by
    intro l
    induction l with
    | nil => intro q kept e he; exact .inl he
    | cons a l ih =>
      intro q kept e he
      rw [List.foldl_cons] at he
      split at he
      · exact (ih _ _ e he).imp id fun h => List.mem_cons_of_mem _ h
      · rcases ih _ _ e he with h | h
        · split at h
          · exact .inl h
          · rcases Array.mem_push.1 h with h | h
            · exact .inl h
            · exact .inr (by rw [h]; exact List.mem_cons_self)
        · exact .inr (List.mem_cons_of_mem _ h)
  unfold seen at h
  dsimp only at h
  rw [← Array.foldl_toList] at h
  have := key es.toList ((P.funcs[fn]?).any (·.norace)) #[] e h
  simpa using this
end
def c0 (P : Program) : Frame := { fn := P.funcs.size, tmps := #[], todo := [.call { target := .nil, args := #[] } false "fmt's door of nobody" #[]], defers := [], mode := .run, kind := .normal }
section
variable {L : Nat} {Pg P : Program} {Gl : Globs} {Al : Nat → Bool} {Sh : Nat → Prop} {ρ ρ1 : Ren} {w w' w1 w1' : World} {fr fr' : Frame} {st st' base : List Frame} {main : Bool}
inductive Out (L : Nat) (P : Program) (Gl : Globs) (Al : Nat → Bool) (Sh : Nat → Prop) (ρ : Ren) (w w' : World) (fr fr' : Frame) (st st' base : List Frame) (main : Bool) : Prop
  | ended {o : Outcome} {w1 : World} {es : Array Event} (h : stepG P true (G fr (st ++ [c0 P])) w = .ended o w1 es) : Out L P Gl Al Sh ρ w w' fr fr' st st' base main
  | pan {fr1 : Frame} {w1 : World} {es : Array Event} {c : List PanicEntry} (h : stepG P true (G fr (st ++ [c0 P])) w = .go (G fr1 (st ++ [c0 P])) w1 es) (hm : fr1.mode = .panicking c) (hd : fr1.defers = []) (hf : Al fr1.fn = true) : Out L P Gl Al Sh ρ w w' fr fr' st st' base main
  | go {ρ1 : Ren} {fr1 fr1' : Frame} {st1 st1' : List Frame} {w1 w1' : World} {es es' : Array Event} (h : stepG P true (G fr (st ++ [c0 P])) w = .go (G fr1 (st1 ++ [c0 P])) w1 es) (h' : stepG P main (G fr' (st' ++ base)) w' = .go (G fr1' (st1' ++ base)) w1' es')
      (hF : RelF P Gl Al ρ1 fr1 fr1') (hS : RelFs P Gl Al ρ1 st1 st1') (hs : Sit L P Gl Al Sh ρ1 w1 w1') (hf : Frm Sh ρ ρ1 w w1 w' w1') (he : ∀ e ∈ es', EvR Sh ρ1 e) : Out L P Gl Al Sh ρ w w' fr fr' st st' base main
inductive Out2 (L : Nat) (Pg P : Program) (Gl : Globs) (Al : Nat → Bool) (Sh : Nat → Prop) (ρ : Ren) (w w' : World) (fr fr' : Frame) (st st' base : List Frame) (main : Bool) : Prop
  | ended {o : Outcome} {w1 : World} {es : Array Event} (h : stepG Pg true (G fr (st ++ [c0 Pg])) w = .ended o w1 es) : Out2 L Pg P Gl Al Sh ρ w w' fr fr' st st' base main
  | pan {fr1 : Frame} {w1 : World} {es : Array Event} {c : List PanicEntry} (h : stepG Pg true (G fr (st ++ [c0 Pg])) w = .go (G fr1 (st ++ [c0 Pg])) w1 es) (hm : fr1.mode = .panicking c) (hd : fr1.defers = []) (hf : Al fr1.fn = true) : Out2 L Pg P Gl Al Sh ρ w w' fr fr' st st' base main
  | go {ρ1 : Ren} {fr1 fr1' : Frame} {st1 st1' : List Frame} {w1 w1' : World} {es es' : Array Event} (h : stepG Pg true (G fr (st ++ [c0 Pg])) w = .go (G fr1 (st1 ++ [c0 Pg])) w1 es) (h' : stepG P main (G fr' (st' ++ base)) w' = .go (G fr1' (st1' ++ base)) w1' es')
      (hF : RelF P Gl Al ρ1 fr1 fr1') (hS : RelFs P Gl Al ρ1 st1 st1') (hs : Sit L P Gl Al Sh ρ1 w1 w1') (hf : Frm Sh ρ ρ1 w w1 w' w1') (he : ∀ e ∈ es', EvR Sh ρ1 e) : Out2 L Pg P Gl Al Sh ρ w w' fr fr' st st' base main
  | meets {ρ1 : Ren} {f : FuncId} {x x' : Array Value} {w1 w1' : World} {es es' : Array Event} (hFf : Gl.d f x.size = true) (h : stepG Pg true (G fr (st ++ [c0 Pg])) w = .go (G (Frame.enter Pg f x .normal) (fr :: st ++ [c0 Pg])) w1 es) (h' : stepG P main (G fr' (st' ++ base)) w' = .go (G (Frame.enter P f x' .normal) (fr' :: st' ++ base)) w1' es')
      (hx : RelR ρ1 x x') (hF : RelF P Gl Al ρ1 fr fr') (hr : fr.mode = .run) (ht : ∃ ops i rest k, fr.todo = .inRegion ops (i :: rest) :: k) (hS : RelFs P Gl Al ρ1 st st') (hs : Sit L P Gl Al Sh ρ1 w1 w1') (hf : Frm Sh ρ ρ1 w w1 w' w1') (he : ∀ e ∈ es', EvR Sh ρ1 e) : Out2 L Pg P Gl Al Sh ρ w w' fr fr' st st' base main
theorem sim_resultList [Kin Pg P] (l : List ResultVar) : ∀ {ρ : Ren} {x x' : Array Value}, RelR ρ x x' → SimS Pg P (fun ρ (a b : List Value) => RelR ρ a.toArray b.toArray) ρ (l.mapM fun | .tmp t => (Pure.pure (x.getD t undef) : Sem Value) | .cell a t => do loadVar t (← asAddr (x.getD a undef))) (l.mapM fun | .tmp t => (Pure.pure (x'.getD t undef) : Sem Value) | .cell a t => do loadVar t (← asAddr (x'.getD a undef))) := by
  induction l with
  | nil => intro ρ x x' h; exact .pr .empty
  | cons r l ih =>
    intro ρ x x' h
    rw [List.mapM_cons, List.mapM_cons]
    refine SimS.bd (Q := RelV) ?_ fun ρ1 v v' hle hv => (ih (h.mono hle)).bd fun ρ2 a b hle2 hab => .pr ?_
    · cases r with
      | tmp t => exact .pr (h.getD t rel_undef)
      | cell a t => exact (sim_asAddr (h.getD a rel_undef)).bd fun ρ1 u u' _ hu => sim_loadVar hu t
    · have := (RelR.one (hv.mono hle2)).append hab
      simpa using this
theorem sim_results [Kin Pg P] (fn : Func) {x x' : Array Value} (h : RelR ρ x x') : SimS Pg P RelV ρ (results fn x) (results fn x') := by
  unfold results
  rw [Array.mapM_eq_mapM_toList, Array.mapM_eq_mapM_toList]
  refine SimS.bd (Q := RelR) ((sim_resultList fn.results.toList h).bd fun ρ1 a b hle hab => .pr hab) fun ρ2 a b hle hab => .pr ?_
  by_cases e : a.size = 1
  · have e' : b.size = 1 := by rw [← hab.1]; exact e
    rw [dif_pos e, dif_pos e']
    exact hab.2 0 _ _ (Array.getElem?_eq_getElem (by omega)) (Array.getElem?_eq_getElem (by omega))
  · have e' : ¬ b.size = 1 := by rw [← hab.1]; exact e
    rw [dif_neg e, dif_neg e']
    exact hab.tuple
theorem exitTo_sub {id : Nat} : ∀ {k k' : List Item}, exitTo id k = some k' → ∀ i ∈ k', i ∈ k
  | [], _, h => by cases h
  | x :: k, k', h => by
    have more := fun (h : exitTo id k = some k') i hi => List.mem_cons_of_mem x (exitTo_sub h i hi)
    cases x
    all_goals first
      | exact more h
      | (simp only [exitTo] at h
         split at h
         · cases h
           exact fun i hi => List.mem_cons_of_mem _ hi
         · exact more h)
theorem RelF.finish (h : RelF P Gl Al ρ fr fr') {ops : Array Oper} {i : Nat} {rest : List Nat} {k : List Item} (ht : fr.todo = .inRegion ops (i :: rest) :: k) {v v' : Value} (hv : RelV ρ v v') : RelF P Gl Al ρ (fr.finish v) (fr'.finish v') := by
  have ht' := h.todo.trans ht
  have e : fr.finish v = { fr with tmps := match (ops[i]?).bind (·.dst) with | some d => fr.tmps.setIfInBounds d v | none => fr.tmps, todo := .inRegion ops rest :: k } := by simp only [Frame.finish, ht]; rfl
  have e' : fr'.finish v' = { fr' with tmps := match (ops[i]?).bind (·.dst) with | some d => fr'.tmps.setIfInBounds d v' | none => fr'.tmps, todo := .inRegion ops rest :: k } := by simp only [Frame.finish, ht']; rfl
  have hk := h.ok
  rw [ht] at hk
  rw [e, e']
  refine ⟨h.fn, h.al, ?_, rfl, fun x hx => ?_, h.defers, h.defers', h.mode, h.run, h.kind, h.kind', h.round, h.round'⟩
  · show RelR ρ (match (ops[i]?).bind (·.dst) with | some d => fr.tmps.setIfInBounds d v | none => fr.tmps) (match (ops[i]?).bind (·.dst) with | some d => fr'.tmps.setIfInBounds d v' | none => fr'.tmps)
    split
    · exact h.tmps.set _ hv
    · exact h.tmps
  · rcases List.mem_cons.1 hx with rfl | hx
    · exact hk (.inRegion ops (i :: rest)) List.mem_cons_self
    · exact hk x (List.mem_cons_of_mem _ hx)
theorem RelF.enter2 (T : Tame2 Pg P Gl Al) {f : FuncId} (hf : Al f = true) {x x' : Array Value} (hx : RelR ρ x x') : RelF P Gl Al ρ (Frame.enter Pg f x .normal) (Frame.enter P f x' .normal) := by
  obtain ⟨fn, body, h1, h1', h2, h3, h4⟩ := T.body f hf
  refine ⟨rfl, hf, ?_, by simp only [Frame.enter, h1, h1'], fun i hi => ?_, rfl, rfl, rfl, .inl rfl, rfl, rfl, rfl, rfl⟩
  · show RelR ρ (x ++ Array.replicate (((Pg.funcs[f]?).map (·.ntmps)).getD 0 - x.size) undef) (x' ++ Array.replicate (((P.funcs[f]?).map (·.ntmps)).getD 0 - x'.size) undef)
    rw [← hx.1, h1, h1']
    refine hx.append ⟨by simp, fun i v v' k1 k2 => ?_⟩
    simp only [Array.getElem?_replicate] at k1 k2
    split at k1
    · rw [if_pos (by assumption)] at k2
      cases k1; cases k2
      exact rel_undef
    · cases k1
  · simp only [Frame.enter, h1, Option.bind_some, h3, Option.getD_some, List.mem_singleton] at hi
    subst hi
    exact h4
theorem RelF.enter (T : TameP P Gl Al) {f : FuncId} (hf : Al f = true) {x x' : Array Value} (hx : RelR ρ x x') : RelF P Gl Al ρ (Frame.enter P f x .normal) (Frame.enter P f x' .normal) := RelF.enter2 T.two hf hx
theorem kin_follows [Kin Pg P] (d : Departure) : Pg.follows d = P.follows d := by rw [‹Kin Pg P›.tables]
theorem apply_value {cs : List Frame} {s : Sem Next} {v : Value} {es : Array Event} (hk : fr.kind = .normal) (h : s.runT P w #[] = (.ok (.value v) w1, es)) : stepG.apply P true fr cs none s w = .go (G (fr.finish v) cs) w1 (seen P fr.fn es) := by
  simp only [stepG.apply, if_true, h, hk, GStep.after]
  rw [if_neg (by decide), Array.append_empty]
  rfl
theorem apply_skip {cs : List Frame} {s : Sem Next} {es : Array Event} (hk : fr.kind = .normal) (h : s.runT P w #[] = (.ok .skip w1, es)) : stepG.apply P true fr cs none s w = .go (G (fr.finish undef) cs) w1 (seen P fr.fn es) := by
  simp only [stepG.apply, if_true, h, hk, GStep.after]
  rw [if_neg (by decide), Array.append_empty]
  rfl
theorem apply_enter {cs : List Frame} {s : Sem Next} {f : FuncId} {x : Array Value} {es : Array Event} {ops : Array Oper} {i : Nat} {rest : List Nat} {k : List Item} (ht : fr.todo = .inRegion ops (i :: rest) :: k) (hk : fr.kind = .normal) (h : s.runT P w #[] = (.ok (.enter f x) w1, es)) : stepG.apply P true fr cs none s w = .go (G (Frame.enter P f x .normal) (fr :: cs)) w1 (seen P fr.fn es) := by
  simp only [stepG.apply, if_true, h, hk, GStep.after, ht]
  rw [if_neg (by decide), Array.append_empty]
  rfl
theorem apply_halt {cs : List Frame} {s : Sem Next} {x : Halt} {es : Array Event} (hk : fr.kind = .normal) (hx : tame x = true) (h : s.runT P w #[] = (.halt x w1, es)) : (∃ o, stepG.apply P true fr cs none s w = .ended o w1 (seen P fr.fn es)) ∨ ∃ v, stepG.apply P true fr cs none s w = .go (G (fr.raise [{ v, recovered := false }]) cs) w1 (seen P fr.fn es) := by
  cases x with
  | panic v => exact .inr ⟨v, by simp only [stepG.apply, if_true, h, hk, GStep.after]; rw [if_neg (by decide), Array.append_empty]; rfl⟩
  | stuck m => exact .inl ⟨_, by simp only [stepG.apply, if_true, h, hk, GStep.after]; rw [if_neg (by decide), Array.append_empty]⟩
  | unsupported u =>
    cases u with
    | initOrder g => cases hx
    | _ => exact .inl ⟨_, by simp only [stepG.apply, if_true, h, hk, GStep.after]; rw [if_neg (by decide), Array.append_empty]⟩
  | _ => cases hx
theorem sim_step2 [Kin Pg P] (T : Tame2 Pg P Gl Al) (hs : Sit L P Gl Al Sh ρ w w') (hF : RelF P Gl Al ρ fr fr') (hS : RelFs P Gl Al ρ st st') (hne : ¬ (st = [] ∧ fr.mode = .returning)) (hL : ∀ g1 w1 es, stepG Pg true (G fr (st ++ [c0 Pg])) w = .go g1 w1 es → w1.drawn ≤ L) : Out2 L Pg P Gl Al Sh ρ w w' fr fr' st st' base main := by
  have mv : ∀ (t : List Item) (m : FrameMode), (∀ i ∈ t, okItem P Gl Al i = true) → (m = .run ∨ m = .returning) → stepG Pg true (G fr (st ++ [c0 Pg])) w = .go (G { fr with todo := t, mode := m } (st ++ [c0 Pg])) w #[] → stepG P main (G fr' (st' ++ base)) w' = .go (G { fr' with todo := t, mode := m } (st' ++ base)) w' #[] → Out2 L Pg P Gl Al Sh ρ w w' fr fr' st st' base main := fun t m hok hm h1 h2 =>
    .go h1 h2 ⟨hF.fn, hF.al, hF.tmps, rfl, hok, hF.defers, hF.defers', rfl, hm, hF.kind, hF.kind', hF.round, hF.round'⟩ hS hs (.refl _ _ _) (by simp)
  have hok := hF.ok
  rcases hF.run with hrun | hret
  · have hrun' := hF.mode.trans hrun
    cases ht : fr.todo with
    | nil =>
      have ht' := hF.todo.trans ht
      refine mv [] .returning (by simp) (.inr rfl) ?_ ?_
      · simp [stepG, stepG.exec, G, hrun, ht, hF.round]
      · simp [stepG, stepG.exec, G, hrun', ht', hF.round']
    | cons x k =>
      have ht' := hF.todo.trans ht
      rw [ht] at hok
      have hx := hok x List.mem_cons_self
      have hk : ∀ i ∈ k, okItem P Gl Al i = true := fun i hi => hok i (List.mem_cons_of_mem _ hi)
      have S1 : ∀ {X : GStep}, (stepG Pg true (G fr (st ++ [c0 Pg])) w = X) = (stepG.exec Pg true true fr (st ++ [c0 Pg]) none w = X) := by
        intro X
        have : stepG Pg true (G fr (st ++ [c0 Pg])) w = stepG.exec Pg true true fr (st ++ [c0 Pg]) none w := by simp only [stepG, G, hrun]
        rw [this]
      have S2 : ∀ {X : GStep}, (stepG P main (G fr' (st' ++ base)) w' = X) = (stepG.exec P main true fr' (st' ++ base) none w' = X) := by
        intro X
        have : stepG P main (G fr' (st' ++ base)) w' = stepG.exec P main true fr' (st' ++ base) none w' := by simp only [stepG, G, hrun']
        rw [this]
      have go1 : ∀ t, stepG.exec Pg true true fr (st ++ [c0 Pg]) none w = .go { frame := { fr with todo := t }, callers := st ++ [c0 Pg], status := .running, dying := none } w → stepG.exec P main true fr' (st' ++ base) none w' = .go { frame := { fr' with todo := t }, callers := st' ++ base, status := .running, dying := none } w' → (∀ i ∈ t, okItem P Gl Al i = true) → Out2 L Pg P Gl Al Sh ρ w w' fr fr' st st' base main := fun t h1 h2 h3 =>
        mv t .run h3 (.inl rfl) (by rw [S1, h1]; simp only [G, ← hrun]) (by rw [S2, h2]; simp only [G, ← hrun'])
      cases x with
      | inBlock id => exact go1 k (by simp only [stepG.exec, ht]) (by simp only [stepG.exec, ht']) hk
      | inLoop b => exact go1 (.code b :: .inLoop b :: k) (by simp only [stepG.exec, ht]) (by simp only [stepG.exec, ht']) (by
          intro i hi
          rcases List.mem_cons.1 hi with rfl | hi
          · exact hx
          · rcases List.mem_cons.1 hi with rfl | hi
            · exact hx
            · exact hk i hi)
      | inRegion ops l =>
        cases l with
        | nil => exact go1 k (by simp only [stepG.exec, ht]) (by simp only [stepG.exec, ht']) hk
        | cons i rest =>
          have hy := yielded_same hF.tmps ops
          have hw : (((ops[i]?).map (Region.wanted · (yielded ops fr'.tmps))).getD false) = (((ops[i]?).map (Region.wanted · (yielded ops fr.tmps))).getD false) := by rw [hy]
          by_cases hwn : (((ops[i]?).map (Region.wanted · (yielded ops fr.tmps))).getD false) = true
          · cases ho : ops[i]? with
            | none => rw [ho] at hwn; cases hwn
            | some o =>
              have hoo : okOp P Gl Al o.op = true := List.all_eq_true.1 hx o (by simpa using Array.mem_of_getElem? ho)
              have sim := sim_execOp (fun v => ⟨rfl, rfl⟩) (fun f => ⟨rfl, rfl⟩) (fun f n h => by rw [hs.hD]; exact h) (T.bodies hs.hA hs.hD) hs.hG (fun f hf => by rw [hs.hA]; exact hf) (hF.eval hs) o hoo
              rw [ho] at hwn hw
              have hwn' : (((some o).map (Region.wanted · (yielded ops fr'.tmps))).getD false) = true := by rw [hw]; exact hwn
              have A1 : stepG Pg true (G fr (st ++ [c0 Pg])) w = stepG.apply Pg true fr (st ++ [c0 Pg]) none (execOp fr.eval o) w := by
                rw [S1]
                simp only [stepG.exec, ht, stepG.oper, Frame.oper?, ho, hF.round]
                rw [if_pos hwn]
              have A2 : stepG P main (G fr' (st' ++ base)) w' = stepG.apply P true fr' (st' ++ base) none (execOp fr'.eval o) w' := by
                rw [S2]
                simp only [stepG.exec, ht', stepG.oper, Frame.oper?, ho, hF.round']
                rw [if_pos hwn']
              have hbig : ρ.G ≤ w.heap.size := by rw [hs.hG.size]; exact hs.big
              have hdr : ∀ {n : Next} {w1 : World} (es : Array Event), (execOp fr.eval o).runT Pg w #[] = (.ok n w1, es) → w1.drawn ≤ L := fun {n w1} es hr => by
                obtain ⟨ρ1, b, w1', more, _, r2, _⟩ := sim.runs #[] (hs.rel.follow w1.drawn) hs.sh hbig hr (Nat.le_refl _)
                cases r2 with
                | value hv => exact hL _ _ _ (A1.trans (apply_value hF.kind hr))
                | skip => exact hL _ _ _ (A1.trans (apply_skip hF.kind hr))
                | enter f hA hxx => exact hL _ _ _ (A1.trans (apply_enter ht hF.kind hr))
              cases hr : (execOp fr.eval o).runT Pg w #[] with
              | mk r es =>
                cases r with
                | ok n w1 =>
                  obtain ⟨ρ1, b, w1', more, r1, r2, r3, r4, r5⟩ := sim.runs #[] hs.rel hs.sh hbig hr (hdr _ hr)
                  have hev : ∀ e ∈ seen P fr'.fn (#[] ++ more), EvR Sh ρ1 e := fun e he => r5 e (by simpa using seen_sub _ _ he)
                  cases r2 with
                  | value hv => exact .go (A1.trans (apply_value hF.kind hr)) (A2.trans (apply_value hF.kind' r1)) ((hF.mono r4.le).finish ht hv) (hS.mono r4.le) (hs.step r3 r4) r4 hev
                  | skip => exact .go (A1.trans (apply_skip hF.kind hr)) (A2.trans (apply_skip hF.kind' r1)) ((hF.mono r4.le).finish ht rel_undef) (hS.mono r4.le) (hs.step r3 r4) r4 hev
                  | enter f hA hxx =>
                    rcases hA with hA | hA
                    · exact .go (st1 := fr :: st) (st1' := fr' :: st') (A1.trans (apply_enter ht hF.kind hr)) (A2.trans (apply_enter ht' hF.kind' r1)) (RelF.enter2 T (by have := r4.le.2.1; rw [this, hs.hA] at hA; exact hA) hxx) (.cons (hF.mono r4.le) hrun ⟨_, _, _, _, ht⟩ (hS.mono r4.le)) (hs.step r3 r4) r4 hev
                    · exact .meets (by have := r4.le.dd; rw [this, hs.hD] at hA; exact hA) (A1.trans (apply_enter ht hF.kind hr)) (A2.trans (apply_enter ht' hF.kind' r1)) hxx (hF.mono r4.le) hrun ⟨_, _, _, _, ht⟩ (hS.mono r4.le) (hs.step r3 r4) r4 hev
                | halt y w1 =>
                  have hty := sim.halts hs.rel hs.sh hbig (by rw [← Sem.runT_fst Pg _ w #[], hr] : (execOp fr.eval o).run Pg w = .halt y w1)
                  rcases apply_halt (cs := st ++ [c0 Pg]) hF.kind hty hr with ⟨o1, h1⟩ | ⟨v, h1⟩
                  · exact .ended (A1.trans h1)
                  · exact .pan (A1.trans h1) (c := [{ v, recovered := false }]) (by simp [Frame.raise, hrun]) (by simp [Frame.raise, hrun, hF.defers]) (by simp [Frame.raise, hrun, hF.al])
          · have hwn' : ¬ (((ops[i]?).map (Region.wanted · (yielded ops fr'.tmps))).getD false) = true := by rw [hw]; exact hwn
            refine .go (ρ1 := ρ) (es := #[]) (es' := #[]) (fr1 := fr.finish undef) (fr1' := fr'.finish undef) (st1 := st) (st1' := st') (w1 := w) (w1' := w') ?_ ?_ (hF.finish ht rel_undef) hS hs (.refl _ _ _) (by simp)
            · rw [S1]
              simp only [stepG.exec, ht, hwn, G]
              rfl
            · rw [S2]
              simp only [stepG.exec, ht', hwn', G]
              rfl
      | code c =>
        cases c with
        | skip => exact go1 k (by simp only [stepG.exec, ht]) (by simp only [stepG.exec, ht']) hk
        | ret =>
          refine mv (.code .ret :: k) .returning (by rw [← ht]; exact hF.ok) (.inr rfl) ?_ ?_
          · rw [S1]; simp only [stepG.exec, ht, hF.round, G]; rfl
          · rw [S2]; simp only [stepG.exec, ht', hF.round', G]; rfl
        | seq a b =>
          simp only [okItem, okCode, Bool.and_eq_true] at hx
          exact go1 (.code a :: .code b :: k) (by simp only [stepG.exec, ht]) (by simp only [stepG.exec, ht']) (by
            intro i hi
            rcases List.mem_cons.1 hi with rfl | hi
            · exact hx.1
            · rcases List.mem_cons.1 hi with rfl | hi
              · exact hx.2
              · exact hk i hi)
        | block id b => exact go1 (.code b :: .inBlock id :: k) (by simp only [stepG.exec, ht]) (by simp only [stepG.exec, ht']) (by
            intro i hi
            rcases List.mem_cons.1 hi with rfl | hi
            · exact hx
            · rcases List.mem_cons.1 hi with rfl | hi
              · rfl
              · exact hk i hi)
        | loop b => exact go1 (.code b :: .inLoop b :: k) (by simp only [stepG.exec, ht]) (by simp only [stepG.exec, ht']) (by
            intro i hi
            rcases List.mem_cons.1 hi with rfl | hi
            · exact hx
            · rcases List.mem_cons.1 hi with rfl | hi
              · exact hx
              · exact hk i hi)
        | cond c a b =>
          simp only [okItem, okCode, Bool.and_eq_true] at hx
          have hc := hF.eval hs c hx.1.1
          cases hv : fr.eval c with
          | bool z =>
            rw [hv] at hc
            cases hv' : fr'.eval c with
            | bool z' =>
              rw [hv'] at hc
              cases hc
              exact go1 (.code (if z then a else b) :: k) (by simp only [stepG.exec, ht, hv]) (by simp only [stepG.exec, ht', hv']) (by
                intro i hi
                rcases List.mem_cons.1 hi with rfl | hi
                · cases z
                  · exact hx.2
                  · exact hx.1.2
                · exact hk i hi)
            | _ => rw [hv'] at hc; cases hc
          | _ => exact .ended (by rw [S1]; simp only [stepG.exec, ht, hv]; rfl)
        | exit id =>
          cases he : exitTo id k with
          | none => exact .ended (by rw [S1]; simp only [stepG.exec, ht, he, Option.elim, hF.round]; rfl)
          | some k' => exact go1 k' (by simp only [stepG.exec, ht, he, Option.elim]) (by simp only [stepG.exec, ht', he, Option.elim]) fun i hi => hk i (exitTo_sub he i hi)
        | region id ops draw =>
          cases draw with
          | false => exact go1 (.inRegion ops (List.range ops.size) :: k) (by simp only [stepG.exec, ht]; rfl) (by simp only [stepG.exec, ht']; rfl) (by
              intro i hi
              rcases List.mem_cons.1 hi with rfl | hi
              · exact hx
              · exact hk i hi)
          | true =>
            have B1 : stepG Pg true (G fr (st ++ [c0 Pg])) w = .go (G { fr with todo := .inRegion ops (Region.schedule (P.follows .mixedOrders) ops (w.tape w.drawn (.order fr.fn id))) :: k } (st ++ [c0 Pg])) { w with drawn := w.drawn + 1 } #[] := by
              rw [S1, ← kin_follows (Pg := Pg)]
              simp only [stepG.exec, ht, G]
              rfl
            have htp : w'.tape w'.drawn (.order fr'.fn id) = w.tape w.drawn (.order fr.fn id) := by
              have hl : w.drawn + 1 ≤ L := hL _ _ _ B1
              have := hs.rel.tape 0 (.order fr.fn id) (by omega)
              rw [hF.fn]
              simpa using this.symm
            have hd := hs.rel.drew
            refine .go (ρ1 := ρ) (es := #[]) (es' := #[]) (fr1 := { fr with todo := .inRegion ops (Region.schedule (P.follows .mixedOrders) ops (w.tape w.drawn (.order fr.fn id))) :: k }) (fr1' := { fr' with todo := .inRegion ops (Region.schedule (P.follows .mixedOrders) ops (w.tape w.drawn (.order fr.fn id))) :: k }) (st1 := st) (st1' := st') (w1 := { w with drawn := w.drawn + 1 }) (w1' := { w' with drawn := w'.drawn + 1 }) ?_ ?_ ⟨hF.fn, hF.al, hF.tmps, rfl, ?_, hF.defers, hF.defers', hF.mode, hF.run, hF.kind, hF.kind', hF.round, hF.round'⟩ hS (hs.step hd.1 hd.2) hd.2 (by simp)
            · exact B1
            · rw [S2, ← htp]
              simp only [stepG.exec, ht', G]
              rfl
            · intro i hi
              rcases List.mem_cons.1 hi with rfl | hi
              · exact hx
              · exact hk i hi
        | _ => cases hx
      | _ => cases hx
  · cases hS with
    | nil => exact absurd ⟨rfl, hret⟩ hne
    | @cons fr2 fr2' st2 st2' h2 hr2 ho2 hs2 =>
      obtain ⟨ops, i, rest, k, ht2⟩ := ho2
      have hret' := hF.mode.trans hret
      obtain ⟨fn, body, f0, f1, f2, f3, f4⟩ := T.body fr.fn hF.al
      have sim := sim_results (Pg := Pg) (P := P) fn hF.tmps
      have hbig : ρ.G ≤ w.heap.size := by rw [hs.hG.size]; exact hs.big
      cases hr : (results fn fr.tmps).runT Pg w #[] with
      | mk r es =>
        cases r with
        | ok v w1 =>
          have B1 : stepG Pg true (G fr (fr2 :: st2 ++ [c0 Pg])) w = .go (G (fr2.finish v) (st2 ++ [c0 Pg])) w1 (seen Pg fr.fn es) := by
            simp only [stepG, G, hret, unwind, hF.defers, f0, hr, GStep.after, doReturn, hF.kind, List.cons_append, Array.append_empty]
          obtain ⟨ρ1, v', w1', more, r1, r2, r3, r4, r5⟩ := sim.runs #[] hs.rel hs.sh hbig hr (hL _ _ _ B1)
          refine .go (es := seen Pg fr.fn es) (es' := seen P fr'.fn (#[] ++ more)) (fr1 := fr2.finish v) (fr1' := fr2'.finish v') (st1 := st2) (st1' := st2') (w1 := w1) (w1' := w1') ?_ ?_ ((h2.mono r4.le).finish ht2 r2) (hs2.mono r4.le) (hs.step r3 r4) r4 (fun e he => r5 e (by simpa using seen_sub _ _ he))
          · exact B1
          · simp only [stepG, G, hret', unwind, hF.defers', hF.fn, f1, r1, GStep.after, doReturn, hF.kind', List.cons_append, Array.append_empty]
        | halt y w1 =>
          cases y <;> exact .ended (by simp only [stepG, G, hret, unwind, hF.defers, f0, hr, GStep.after]; rfl)
theorem sim_step (T : TameP P Gl Al) (hs : Sit L P Gl Al Sh ρ w w') (hF : RelF P Gl Al ρ fr fr') (hS : RelFs P Gl Al ρ st st') (hne : ¬ (st = [] ∧ fr.mode = .returning)) (hL : ∀ g1 w1 es, stepG P true (G fr (st ++ [c0 P])) w = .go g1 w1 es → w1.drawn ≤ L) : Out L P Gl Al Sh ρ w w' fr fr' st st' base main := by
  cases sim_step2 (base := base) (main := main) T.two hs hF hS hne hL with
  | ended h => exact .ended h
  | pan h hm hd hf => exact .pan h hm hd hf
  | go h h' hF hS hs hf he => exact .go h h' hF hS hs hf he
  | @meets _ f x _ _ _ _ _ hff => rw [T.shut] at hff; cases hff
end
def World.ret (w : World) (τ : Nat → Question → Nat) : World := { w with tape := τ }
def Alike (w w1 : World) (τ : Nat → Question → Nat) : Prop := ∀ i q, w.drawn ≤ i → i < w1.drawn → τ i q = w.tape i q
theorem SimS.local {α β : Type} {Q : Ren → α → β → Prop} {L : Nat} {Sh : Nat → Prop} {p p' : Program} [Kin p p'] {ρ : Ren} {s : Sem α} {s' : Sem β} {τ : Nat → Question → Nat} (h : SimS p p' Q ρ s s') : ∀ {w w' w1 : World} {es es1 : Array Event} {a : α}, RelW L Sh ρ w w' → (∀ b, Sh b → b < w.heap.size) → ρ.G ≤ w.heap.size → s.runT p w es = (.ok a w1, es1) → Alike w w1 τ → s.runT p (World.ret w τ) es = (.ok a (World.ret w1 τ), es1) ∧ w1.tape = w.tape := by
  induction h with
  | dead h =>
    intro w w' w1 es es1 a hw hsh hG hr
    exact absurd (by rw [← Sem.runT_fst p _ w es, hr]) (h.1 w a w1)
  | pure h =>
    intro w w' w1 es es1 a hw hsh hG hr hτ
    simp only [Sem.runT, Prod.mk.injEq, Result.ok.injEq] at hr
    obtain ⟨⟨rfl, rfl⟩, rfl⟩ := hr
    exact ⟨rfl, rfl⟩
  | @load ρ a a' k k' ha h ih =>
    intro w w' w1 es es1 x hw hsh hG hr hτ
    have hc := hw.cell ha
    simp only [Sem.runT] at hr
    split at hr
    · rename_i v hv
      obtain ⟨v', hv', hrel⟩ := hc.1 v hv
      obtain ⟨h1, h2⟩ := ih v v' hrel hw hsh hG hr hτ
      have hv2 : (World.ret w τ).cell? a = some v := hv
      exact ⟨by simp only [Sem.runT, hv2]; exact h1, h2⟩
    · rename_i hn
      obtain ⟨y, hy, _⟩ := (hc.2 hn p (Mode.plain == .atomic)).1
      rw [hy] at hr
      cases hr
  | @store ρ a a' v v' k k' ha hv h ih =>
    intro w w' w1 es es1 x hw hsh hG hr hτ
    have hc := hw.cell ha
    have hst := fun hx hy => hw.store ha hv hx hy
    cases v <;> simp only [Sem.runT] at hr
    all_goals first
      | (cases hr; done)
      | (split at hr
         · rename_i v0 hv0
           split at hr
           · cases hr
           · rename_i hfz
             obtain ⟨h1, h2⟩ := ih (hst ⟨v0, hv0⟩ (by simpa using hfz)).1 (fun b hb => by simpa [World.setCell] using hsh b hb) (by simpa [World.setCell] using hG) hr hτ
             have hv2 : (World.ret w τ).cell? a = some v0 := hv0
             have hf2 : ¬ (World.ret w τ).frozen? a = true := hfz
             exact ⟨by simp only [Sem.runT, hv2, hf2]; exact h1, h2⟩
         · rename_i hn
           obtain ⟨y, hy, _⟩ := (hc.2 hn p (Mode.plain == .atomic)).2 _
           rw [hy] at hr
           cases hr)
  | @new ρ o o' k k' ho h ih =>
    intro w w' w1 es es1 x hw hsh hG hr hτ
    have hn := hw.new hsh ho
    exact ih _ w.heap.size w'.heap.size hn.2.le (.inr ⟨rfl, rfl⟩) hG (hw.low0 _ (Nat.le_refl _)) hn.1 (fun b hb => by have := hsh b hb; simp; omega) (by show ρ.G ≤ _; simp; omega) hr hτ
  | shape hr' h ih => intro w w' w1 es es1 x hw hsh hG hr hτ; exact ih _ _ (hw.shapes hr') hw hsh hG hr hτ
  | @getObj ρ r r' k k' hr' h ih =>
    intro w w' w1 es es1 x hw hsh hG hr hτ
    obtain ⟨o, o', h1, h2, ho⟩ := hw.obj _ _ hr'
    cases ho with
    | cells e _ hc hf =>
      simp only [Sem.runT, h1] at hr
      cases hr
    | part hl hh hc =>
      simp only [Sem.runT, h1] at hr
      cases hr
    | @number a a' l _ hn =>
      simp only [Sem.runT, h1] at hr
      obtain ⟨g1, g2⟩ := ih a a' l hn hw hsh hG hr hτ
      have h3 : (World.ret w τ).heap[r]? = some (.number a l) := h1
      exact ⟨by simp only [Sem.runT, h3]; exact g1, g2⟩
  | choose q h ih =>
    intro w w' w1 es es1 x hw hsh hG hr hτ
    simp only [Sem.runT] at hr ⊢
    by_cases hq : q.forced = true
    · rw [if_pos hq] at hr ⊢
      exact ih _ hw hsh hG hr hτ
    · rw [if_neg hq] at hr ⊢
      have hd := hw.drew
      have hgr : w.drawn + 1 ≤ w1.drawn := (h _).grows hd.1 hsh hG hr
      have ht : (World.ret w τ).tape (World.ret w τ).drawn q = w.tape w.drawn q := hτ w.drawn q (Nat.le_refl _) (by omega)
      rw [ht]
      exact ih _ hd.1 hsh hG hr fun i q' h1 h2 => hτ i q' (by have : w.drawn + 1 ≤ i := h1; omega) h2
  | program h ih => intro w w' w1 es es1 x hw hsh hG hr hτ; exact ih hw hsh hG hr hτ
  | room h ih => intro w w' w1 es es1 x hw hsh hG hr hτ; exact ih hw hsh hG hr hτ
section
variable {L : Nat} {P : Program} {Gl : Globs} {Al : Nat → Bool} {Sh : Nat → Prop} {ρ : Ren} {w w' w1 : World} {fr fr' : Frame} {st st' : List Frame} {τ : Nat → Question → Nat}
theorem still_local {cs : List Frame} {g1 g : Goroutine} {es : Array Event} (hm : ∀ w, stepG P true (G fr cs) w = .go g w #[]) (h : stepG P true (G fr cs) w = .go g1 w1 es) : stepG P true (G fr cs) (World.ret w τ) = .go g1 (World.ret w1 τ) es ∧ w1.tape = w.tape ∧ w.drawn ≤ w1.drawn := by
  rw [hm w] at h
  cases h
  exact ⟨hm _, rfl, Nat.le_refl _⟩
theorem step_local (T : TameP P Gl Al) (hs : Sit L P Gl Al Sh ρ w w') (hF : RelF P Gl Al ρ fr fr') (hS : RelFs P Gl Al ρ st st') (hne : ¬ (st = [] ∧ fr.mode = .returning)) {fr1 : Frame} {cs1 : List Frame} {es : Array Event} (hmode : fr1.mode = .run ∨ fr1.mode = .returning) (h : stepG P true (G fr (st ++ [c0 P])) w = .go (G fr1 cs1) w1 es) (hτ : Alike w w1 τ) :
    stepG P true (G fr (st ++ [c0 P])) (World.ret w τ) = .go (G fr1 cs1) (World.ret w1 τ) es ∧ w1.tape = w.tape ∧ w.drawn ≤ w1.drawn := by
  have hok := hF.ok
  rcases hF.run with hrun | hret
  · have S1 : ∀ w, stepG P true (G fr (st ++ [c0 P])) w = stepG.exec P true true fr (st ++ [c0 P]) none w := fun w => by simp only [stepG, G, hrun]
    cases ht : fr.todo with
    | nil => exact still_local (g := G { fr with mode := .returning } (st ++ [c0 P])) (fun w => by rw [S1]; simp only [stepG.exec, ht, hF.round, G]; rfl) h
    | cons x k =>
      rw [ht] at hok
      have hx := hok x List.mem_cons_self
      have mv : ∀ t, (∀ w, stepG.exec P true true fr (st ++ [c0 P]) none w = .go { frame := { fr with todo := t }, callers := st ++ [c0 P], status := .running, dying := none } w) → stepG P true (G fr (st ++ [c0 P])) (World.ret w τ) = .go (G fr1 cs1) (World.ret w1 τ) es ∧ w1.tape = w.tape ∧ w.drawn ≤ w1.drawn := fun t ht => still_local (g := G { fr with todo := t } (st ++ [c0 P])) (fun w => by rw [S1, ht]; rfl) h
      cases x with
      | inBlock id => exact mv k fun w => by simp only [stepG.exec, ht]
      | inLoop b => exact mv (.code b :: .inLoop b :: k) fun w => by simp only [stepG.exec, ht]
      | inRegion ops l =>
        cases l with
        | nil => exact mv k fun w => by simp only [stepG.exec, ht]
        | cons i rest =>
          by_cases hwn : (((ops[i]?).map (Region.wanted · (yielded ops fr.tmps))).getD false) = true
          · cases ho : ops[i]? with
            | none => rw [ho] at hwn; cases hwn
            | some o =>
              have hoo : okOp P Gl Al o.op = true := List.all_eq_true.1 hx o (by simpa using Array.mem_of_getElem? ho)
              have sim := sim_execOp (fun v => ⟨rfl, rfl⟩) (fun f => ⟨rfl, rfl⟩) (fun f n h => by rw [hs.hD]; exact h) (T.bodies hs.hA hs.hD) hs.hG (fun f hf => by rw [hs.hA]; exact hf) (hF.eval hs) o hoo
              rw [ho] at hwn
              have A1 : ∀ w, stepG P true (G fr (st ++ [c0 P])) w = stepG.apply P true fr (st ++ [c0 P]) none (execOp fr.eval o) w := fun w => by
                rw [S1]
                simp only [stepG.exec, ht, stepG.oper, Frame.oper?, ho, hF.round]
                rw [if_pos hwn]
              have hbig : ρ.G ≤ w.heap.size := by rw [hs.hG.size]; exact hs.big
              cases hr : (execOp fr.eval o).runT P w #[] with
              | mk r es0 =>
                cases r with
                | ok n w2 =>
                  obtain ⟨ρ1, b, w1', more, _, r2, _⟩ := sim.runs #[] (hs.rel.follow w2.drawn) hs.sh hbig hr (Nat.le_refl _)
                  have hgr := sim.grows hs.rel hs.sh hbig hr
                  cases r2 with
                  | value hv =>
                    rw [A1, apply_value hF.kind hr] at h
                    cases h
                    obtain ⟨l1, l2⟩ := sim.local hs.rel hs.sh hbig hr hτ
                    exact ⟨(A1 _).trans (apply_value hF.kind l1), l2, hgr⟩
                  | skip =>
                    rw [A1, apply_skip hF.kind hr] at h
                    cases h
                    obtain ⟨l1, l2⟩ := sim.local hs.rel hs.sh hbig hr hτ
                    exact ⟨(A1 _).trans (apply_skip hF.kind l1), l2, hgr⟩
                  | enter f hA hxx =>
                    rw [A1, apply_enter ht hF.kind hr] at h
                    cases h
                    obtain ⟨l1, l2⟩ := sim.local hs.rel hs.sh hbig hr hτ
                    exact ⟨(A1 _).trans (apply_enter ht hF.kind l1), l2, hgr⟩
                | halt y w2 =>
                  have hty := sim.halts hs.rel hs.sh hbig (by rw [← Sem.runT_fst P _ w #[], hr] : (execOp fr.eval o).run P w = .halt y w2)
                  rcases apply_halt (cs := st ++ [c0 P]) hF.kind hty hr with ⟨o1, h1⟩ | ⟨v, h1⟩
                  · rw [A1, h1] at h
                    cases h
                  · rw [A1, h1] at h
                    cases h
                    rcases hmode with hm | hm <;> simp [Frame.raise, hrun] at hm
          · exact still_local (g := G (fr.finish undef) (st ++ [c0 P])) (fun w => by rw [S1]; simp only [stepG.exec, ht, hwn, G]; rfl) h
      | code c =>
        cases c with
        | skip => exact mv k fun w => by simp only [stepG.exec, ht]
        | ret => exact still_local (g := G { fr with mode := .returning } (st ++ [c0 P])) (fun w => by rw [S1]; simp only [stepG.exec, ht, hF.round, G]; rfl) h
        | seq a b => exact mv (.code a :: .code b :: k) fun w => by simp only [stepG.exec, ht]
        | block id b => exact mv (.code b :: .inBlock id :: k) fun w => by simp only [stepG.exec, ht]
        | loop b => exact mv (.code b :: .inLoop b :: k) fun w => by simp only [stepG.exec, ht]
        | cond c a b =>
          cases hv : fr.eval c with
          | bool z => exact mv (.code (if z then a else b) :: k) fun w => by simp only [stepG.exec, ht, hv]
          | _ =>
            rw [S1] at h
            simp only [stepG.exec, ht, hv] at h
            cases h
        | exit id =>
          cases he : exitTo id k with
          | none =>
            rw [S1] at h
            simp only [stepG.exec, ht, he, Option.elim, hF.round] at h
            cases h
          | some k' => exact mv k' fun w => by simp only [stepG.exec, ht, he, Option.elim]
        | region id ops draw =>
          cases draw with
          | false => exact mv (.inRegion ops (List.range ops.size) :: k) fun w => by simp only [stepG.exec, ht]; rfl
          | true =>
            have B : ∀ w, stepG P true (G fr (st ++ [c0 P])) w = .go (G { fr with todo := .inRegion ops (Region.schedule (P.follows .mixedOrders) ops (w.tape w.drawn (.order fr.fn id))) :: k } (st ++ [c0 P])) { w with drawn := w.drawn + 1 } #[] := fun w => by
              rw [S1]
              simp only [stepG.exec, ht, G]
              rfl
            rw [B w] at h
            cases h
            have e : (World.ret w τ).tape (World.ret w τ).drawn (.order fr.fn id) = w.tape w.drawn (.order fr.fn id) := hτ w.drawn _ (Nat.le_refl _) (Nat.lt_succ_self _)
            refine ⟨?_, rfl, Nat.le_succ _⟩
            rw [B, e]
            rfl
        | _ => cases hx
      | _ => cases hx
  · cases hS with
    | nil => exact absurd ⟨rfl, hret⟩ hne
    | @cons fr2 fr2' st2 st2' h2 hr2 ho2 hs2 =>
      obtain ⟨fn, body, f1, f2, f3, f4⟩ := T.body fr.fn hF.al
      have sim := sim_results (Pg := P) (P := P) fn hF.tmps
      have hbig : ρ.G ≤ w.heap.size := by rw [hs.hG.size]; exact hs.big
      have B : ∀ {w w1 : World} {v : Value} {es : Array Event}, (results fn fr.tmps).runT P w #[] = (.ok v w1, es) → stepG P true (G fr (fr2 :: st2 ++ [c0 P])) w = .go (G (fr2.finish v) (st2 ++ [c0 P])) w1 (seen P fr.fn es) := fun hr => by
        simp only [stepG, G, hret, unwind, hF.defers, f1, hr, GStep.after, doReturn, hF.kind, List.cons_append, Array.append_empty]
      cases hr : (results fn fr.tmps).runT P w #[] with
      | mk r es0 =>
        cases r with
        | ok v w2 =>
          have hgr := sim.grows hs.rel hs.sh hbig hr
          rw [B hr] at h
          cases h
          obtain ⟨l1, l2⟩ := sim.local hs.rel hs.sh hbig hr hτ
          exact ⟨B l1, l2, hgr⟩
        | halt y w2 =>
          cases y <;> (simp only [stepG, G, hret, unwind, hF.defers, f1, hr, GStep.after] at h; cases h)
end
end Go.Proofs.YtnpffnhiefgglaaGreatDoor
