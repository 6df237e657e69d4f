/-
  A part of the proof.
-/
import Derived.Test.YtnpffnhiefgglaaGreatDoorParw01
import Derived.Calls
import Derived.WalkKit
namespace Go.Proofs.YtnpffnhiefgglaaGreatDoor
open Go
set_option maxRecDepth 100000
section
variable {P : Program} {α β : Type} {Q : α → Prop}
def flatEq0 (P : Program) (t : TypeId) : Bool := match P.underlying t with
  | some .bool | some (.int _) | some .string | some (.slice _) | some (.pointer _) => true
  | _ => false
theorem flat_cases {t : TypeId} (h : flatEq0 P t = true) {d : TypeDesc} (hu : P.underlying t = some d) : d = .bool ∨ (∃ k, d = .int k) ∨ d = .string ∨ (∃ e, d = .slice e) ∨ ∃ e, d = .pointer e := by
  unfold flatEq0 at h
  rw [hu] at h
  cases d <;> simp at h ⊢
theorem hush_equal0 {t : TypeId} (h : flatEq0 P t = true) (n : Nat) (x y : Value) : Calm P (Op.equalIn (n + 1) t x y) := by
  rw [Op.equalIn]
  refine hush_und fun d hu => ?_
  rcases flat_cases h hu with rfl | ⟨k, rfl⟩ | rfl | ⟨e, rfl⟩ | ⟨e, rfl⟩
  · cases x <;> first | exact hush_stuck _ | (cases y <;> first | exact hush_stuck _ | exact hush_pure _ trivial)
  · split <;> first
      | contradiction
      | exact hush_pure _ trivial
      | exact hush_stuck _
      | exact hush_ite (hush_pure _ trivial) (hush_stuck _)
      | exact rfl
      | (refine Hush.bd (hush_behindNumber _) fun _ => Hush.bd (hush_behindNumber _) fun _ => hush_prog ?_
         refine hush_ite (Hush.bd (hush_byteOf _) fun _ => Hush.bd (hush_byteOf _) fun _ => trivial) (Hush.bd (hush_typeInfo _) fun _ => ?_)
         split
         · exact hush_ite trivial rfl
         · exact rfl)
  · cases x <;> first | exact hush_stuck _ | (cases y <;> first | exact hush_stuck _ | exact hush_pure _ trivial)
  · split <;> first
      | contradiction
      | exact hush_pure _ trivial
      | exact hush_stuck _
  · split <;> first
      | contradiction
      | exact hush_pure _ trivial
      | exact hush_stuck _
      | exact Hush.bd (hush_sizeOf _) fun _ => hush_ite (hush_sameAddr _ _) (hush_ite trivial (Hush.bd (hush_choose _) fun _ => trivial))
theorem hush_guard0 {t : TypeId} (h : flatEq0 P t = true) (n : Nat) (a b : Value) : Calm P (Op.eqGuardIn (n + 1) t a b) := by
  rw [Op.eqGuardIn]
  refine hush_und fun d hu => ?_
  rcases flat_cases h hu with rfl | ⟨k, rfl⟩ | rfl | ⟨e, rfl⟩ | ⟨e, rfl⟩ <;> exact hush_pure _ trivial
theorem hush_forIn {γ β : Type} (f : γ → β → Sem (ForInStep β)) (h : ∀ x b, Calm P (f x b)) (l : List γ) : ∀ b, Calm P (forIn l b f) := by
  induction l with
  | nil => exact fun b => trivial
  | cons x l ih =>
    intro b
    rw [List.forIn_cons]
    refine Hush.bd (h x b) fun r => ?_
    cases r with
    | done b => exact trivial
    | yield b => exact ih b
theorem hush_range {β : Type} (f : Nat → β → Sem (ForInStep β)) (h : ∀ x b, Calm P (f x b)) (n : Nat) (b : β) : Calm P (forIn [0:n] b f) := by
  rw [Std.Legacy.Range.forIn_eq_forIn_range']
  exact hush_forIn f h _ b
def flatEq (P : Program) (t : TypeId) : Bool := flatEq0 P t || match P.underlying t with
  | some (.array _ e) => flatEq0 P e
  | _ => false
theorem flat_or {t : TypeId} (h : flatEq P t = true) : flatEq0 P t = true ∨ ∃ n e, P.underlying t = some (.array n e) ∧ flatEq0 P e = true := by
  unfold flatEq at h
  simp only [Bool.or_eq_true] at h
  refine h.imp id fun h => ?_
  split at h
  · rename_i n e hu
    exact ⟨n, e, hu, h⟩
  · cases h
theorem hush_equal {t : TypeId} (h : flatEq P t = true) (x y : Value) : Calm P (Op.equal t x y) := by
  rcases flat_or h with h | ⟨n, e, hu, he⟩
  · exact hush_equal0 h 9999 x y
  · show Calm P (Op.equalIn (9999 + 1) t x y)
    rw [Op.equalIn]
    refine hush_und fun d hd => ?_
    rw [hu] at hd
    cases hd
    split <;> first
      | contradiction
      | exact hush_pure _ trivial
      | exact hush_stuck _
      | (rename_i hh
         cases hh
         refine Hush.bd (hush_sizeOf _) fun m => Hush.bd (hush_range _ (fun i b => ?_) _ _) fun r => ?_
         · refine Hush.bd (hush_part _ _ _) fun _ => Hush.bd (hush_part _ _ _) fun _ => Hush.bd (hush_equal0 he 9998 _ _) fun _ => ?_
           split <;> trivial
         · dsimp only
           split <;> trivial)
theorem hush_guardIn {t : TypeId} (h : flatEq P t = true) (a b : Value) : Calm P (Op.eqGuardIn Op.maxDepth t a b) := by
  rcases flat_or h with h | ⟨n, e, hu, he⟩
  · exact hush_guard0 h 9999 a b
  · show Calm P (Op.eqGuardIn (9999 + 1) t a b)
    rw [Op.eqGuardIn]
    refine hush_und fun d hd => ?_
    rw [hu] at hd
    cases hd
    split <;> first
      | contradiction
      | exact hush_pure _ trivial
      | (rename_i hh
         cases hh
         refine Hush.bd (hush_sizeOf _) fun m => Hush.bd (hush_range _ (fun i b => ?_) _ _) fun r => ?_
         · refine Hush.bd (hush_part _ _ _) fun _ => Hush.bd (hush_part _ _ _) fun _ => Hush.bd (hush_guard0 he 9998 _ _) fun _ => ?_
           split <;> trivial
         · dsimp only
           split <;> trivial)
theorem hush_eqGuard {t : TypeId} (h : flatEq P t = true) (op : BinOp) (x y : Operand) (a b : Value) : Calm P (eqGuard op t x y a b) := by
  have g := hush_guardIn h a b
  unfold eqGuard
  repeat (first | exact trivial | rfl | assumption | exact g | exact hush_stuck _ | exact hush_panic _ | exact fun _ => trivial | exact ⟨trivial, trivial⟩ | (refine hush_prog ?_) | (refine Hush.bd ?_ fun _ => ?_) | (refine Hush.mp ?_ fun _ => ?_) | (refine hush_ite ?_ ?_) | (intro _) | split | (dsimp only))
end
end Go.Proofs.YtnpffnhiefgglaaGreatDoor
namespace Go.Proofs.YtnpffnhiefgglaaGreatDoor
open Go
set_option maxRecDepth 100000
set_option maxHeartbeats 1000000
section
variable {P : Program} {α β : Type} {Q : α → Prop}
theorem hush_floatArith (op : BinOp) (k : FloatKind) (x y : Nat) : Calm P (Op.floatArith op k x y) := by
  unfold Op.floatArith
  have fin : ∀ r : Option Nat, Calm P (match r with | some r => Pure.pure (Value.float k r) | none => do Pure.pure (.float k (← choose (.nanBits k x y))) : Sem Value) := fun r => by
    cases r with
    | none => exact Hush.bd (hush_choose _) fun _ => trivial
    | some r => exact hush_pure _ trivial
  cases op <;> dsimp only <;> first | exact hush_stuck _ | exact Hush.bd (hush_pure _ trivial) fun r => fin r | exact rfl
theorem hush_floatCmp (op : BinOp) (k : FloatKind) (x y : Nat) : Calm P (Op.floatCmp op k x y) := by
  unfold Op.floatCmp
  cases op <;> dsimp only <;> first | exact hush_stuck _ | exact hush_pure _ trivial
theorem hush_floatToFloat (k : FloatKind) (x : Nat) (d : FloatKind) : Calm P (Conv.floatToFloat k x d) := by
  unfold Conv.floatToFloat
  refine hush_ite (hush_pure _ trivial) ?_
  split
  · exact Hush.bd (hush_choose _) fun _ => trivial
  · exact hush_pure _ trivial
  · exact hush_ite (Hush.bd (hush_choose _) fun _ => trivial) (hush_pure _ trivial)
theorem hush_floatToInt (k : FloatKind) (x : Nat) (d : IntKind) : Calm P (Conv.floatToInt k x d) := by
  unfold Conv.floatToInt
  have any : Calm P (do Pure.pure (.int d (d.wrap (← choose (.floatToInt k x d)))) : Sem Value) := Hush.bd (hush_choose _) fun _ => trivial
  dsimp only
  split
  · exact hush_ite (hush_pure _ trivial) any
  · exact any
theorem hush_cArith (op : BinOp) (k : FloatKind) (x y : Nat) : Calm P (Op.Complex.arith op k x y) := by
  unfold Op.Complex.arith
  refine Hush.bd (hush_floatArith _ _ _ _) fun v => ?_
  cases v <;> first | exact hush_stuck _ | exact hush_pure _ trivial
theorem hush_cCmp (op : BinOp) (k : FloatKind) (x y : Nat) : Calm P (Op.Complex.cmp op k x y) := by
  unfold Op.Complex.cmp
  exact Hush.bd (hush_floatCmp _ _ _ _) fun v => hush_asBool _
theorem hush_cConv (k : FloatKind) (x : Nat) (d : FloatKind) : Calm P (Op.Complex.conv k x d) := by
  unfold Op.Complex.conv
  refine hush_ite (hush_pure _ trivial) (Hush.bd (hush_floatToFloat _ _ _) fun v => ?_)
  cases v <;> first | exact hush_stuck _ | exact hush_pure _ trivial
theorem hush_cAdd (x y : Nat) : Calm P (Op.Complex.add x y) := hush_cArith _ _ _ _
theorem hush_cSub (x y : Nat) : Calm P (Op.Complex.sub x y) := hush_cArith _ _ _ _
theorem hush_cMul (x y : Nat) : Calm P (Op.Complex.mul x y) := hush_cArith _ _ _ _
theorem hush_cQuo (x y : Nat) : Calm P (Op.Complex.quo x y) := hush_cArith _ _ _ _
theorem hush_product (a b c d : Nat) : Calm P (Op.Complex.product a b c d) := by
  unfold Op.Complex.product
  exact Hush.bd (hush_cMul _ _) fun _ => Hush.bd (hush_cMul _ _) fun _ => Hush.bd (hush_cSub _ _) fun _ => Hush.bd (hush_cMul _ _) fun _ => Hush.bd (hush_cMul _ _) fun _ => Hush.bd (hush_cAdd _ _) fun _ => hush_pure _ trivial
theorem hush_corrected (s a b c d : Nat) : Calm P (Op.Complex.corrected s a b c d) := by
  unfold Op.Complex.corrected
  repeat (first | exact hush_pure _ trivial | (refine Hush.bd (hush_cMul _ _) fun _ => ?_) | (refine Hush.bd (hush_cSub _ _) fun _ => ?_) | (refine Hush.bd (hush_cAdd _ _) fun _ => ?_))
theorem hush_quotient (a b c d : Nat) : Calm P (Op.Complex.quotient a b c d) := by
  have fin : ∀ (e f : Nat), Calm P (do
      let zero := (← Op.Complex.cmp .eql .f64 c 0) && (← Op.Complex.cmp .eql .f64 d 0)
      if !(Op.Complex.isNaN e && Op.Complex.isNaN f) then Pure.pure (e, f)
      else if zero && (!Op.Complex.isNaN a || !Op.Complex.isNaN b) then
        Pure.pure (← Op.Complex.mul (Op.Complex.copysign Op.Complex.inf c) a, ← Op.Complex.mul (Op.Complex.copysign Op.Complex.inf c) b)
      else if (Op.Complex.isInf a || Op.Complex.isInf b) && Op.Complex.isFinite c && Op.Complex.isFinite d then
        Op.Complex.corrected Op.Complex.inf (Op.Complex.inf2one a) (Op.Complex.inf2one b) c d
      else if (Op.Complex.isInf c || Op.Complex.isInf d) && Op.Complex.isFinite a && Op.Complex.isFinite b then
        Op.Complex.corrected 0 a b (Op.Complex.inf2one c) (Op.Complex.inf2one d)
      else Pure.pure (e, f) : Sem (Nat × Nat)) := fun e f => by
    refine Hush.bd (hush_cCmp _ _ _ _) fun _ => Hush.bd (hush_cCmp _ _ _ _) fun _ => ?_
    exact hush_ite (hush_pure _ trivial) (hush_ite (Hush.bd (hush_cMul _ _) fun _ => Hush.bd (hush_cMul _ _) fun _ => hush_pure _ trivial) (hush_ite (hush_corrected _ _ _ _ _) (hush_ite (hush_corrected _ _ _ _ _) (hush_pure _ trivial))))
  unfold Op.Complex.quotient
  refine Hush.bd (hush_cCmp _ _ _ _) fun _ => ?_
  refine hush_ite ?_ ?_
  all_goals
    repeat (first | (refine Hush.bd (hush_cMul _ _) fun _ => ?_) | (refine Hush.bd (hush_cSub _ _) fun _ => ?_) | (refine Hush.bd (hush_cAdd _ _) fun _ => ?_) | (refine Hush.bd (hush_cQuo _ _) fun _ => ?_))
    exact Hush.bd (hush_pure _ trivial) fun r => fin r.1 r.2
theorem hush_complexOp (op : BinOp) (k : FloatKind) (a b c d : Nat) : Calm P (Op.complexOp op k a b c d) := by
  have big : ∀ o : BinOp, Calm P (do
      let (a, b, c, d) := (← Op.Complex.conv k a .f64, ← Op.Complex.conv k b .f64, ← Op.Complex.conv k c .f64, ← Op.Complex.conv k d .f64)
      let (e, f) ← if o == .mul then Op.Complex.product a b c d else Op.Complex.quotient a b c d
      Pure.pure (.complex k (← Op.Complex.conv .f64 e k) (← Op.Complex.conv .f64 f k)) : Sem Value) := fun o => by
    refine Hush.bd (hush_cConv _ _ _) fun _ => Hush.bd (hush_cConv _ _ _) fun _ => Hush.bd (hush_cConv _ _ _) fun _ => Hush.bd (hush_cConv _ _ _) fun _ => ?_
    dsimp only
    refine hush_ite (Hush.bd (hush_product _ _ _ _) fun r => ?_) (Hush.bd (hush_quotient _ _ _ _) fun r => ?_)
    all_goals
      obtain ⟨e, f⟩ := r
      dsimp only
      refine Hush.bd (hush_cConv _ _ _) fun _ => Hush.bd (hush_cConv _ _ _) fun _ => ?_
      exact hush_pure _ trivial
  unfold Op.complexOp
  cases op <;> dsimp only <;> first
    | exact hush_stuck _
    | exact Hush.bd (hush_cArith _ _ _ _) fun _ => Hush.bd (hush_cArith _ _ _ _) fun _ => hush_pure _ trivial
    | exact Hush.bd (hush_cCmp _ _ _ _) fun _ => Hush.bd (hush_cCmp _ _ _ _) fun _ => hush_pure _ trivial
    | exact big .mul
    | exact big .quo
theorem hush_unsafeAdd (a : Array TypeId) (t : TypeId) (x : Array Value) : Calm P (Builtin.unsafeAdd_ a t x) := by
  unfold Builtin.unsafeAdd_
  obtain ⟨l⟩ := x
  rcases l with _ | ⟨v, _ | ⟨y, _ | ⟨z, l⟩⟩⟩
  · exact rfl
  · cases v <;> exact rfl
  · cases v
    case pointer p =>
      refine Hush.bd (s := asInt y) (hush_asInt _) fun n => ?_
      cases p <;> repeat (first | exact trivial | rfl | assumption | exact hush_asInt _ | exact hush_viewAt _ | exact hush_stuck _ | exact hush_panic _ | exact fun _ => trivial | exact ⟨trivial, trivial⟩ | (refine hush_prog ?_) | (refine Hush.bd ?_ fun _ => ?_) | (refine Hush.mp ?_ fun _ => ?_) | (refine hush_ite ?_ ?_) | (intro _) | split | (dsimp only))
    all_goals exact rfl
  · cases v <;> exact rfl
theorem hush_asNumber (a : Addr) (b : Bool) : Calm P (asNumber a b) := by
  unfold asNumber
  exact Hush.bd (hush_new _) fun _ => hush_pure _ trivial
theorem hush_movedNumber (t : TypeId) (x y : Value) : Calm P (movedNumber t x y) := by
  unfold movedNumber
  repeat (first | exact trivial | rfl | assumption | exact hush_underlying _ | exact hush_unsafeAdd _ _ _ | exact hush_behindNumber _ | exact hush_asNumber _ _ | exact hush_stuck _ | exact hush_panic _ | exact fun _ => trivial | exact ⟨trivial, trivial⟩ | (refine hush_prog ?_) | (refine Hush.bd ?_ fun _ => ?_) | (refine Hush.mp ?_ fun _ => ?_) | (refine hush_ite ?_ ?_) | (intro _) | split | (dsimp only))
theorem hush_movedPointer (t : TypeId) (x y : Value) : Calm P (movedPointer t x y) := by
  unfold movedPointer
  repeat (first | exact trivial | rfl | assumption | exact hush_unsafeAdd _ _ _ | exact hush_numberAt _ | exact hush_stuck _ | exact hush_panic _ | exact fun _ => trivial | exact ⟨trivial, trivial⟩ | (refine hush_prog ?_) | (refine Hush.bd ?_ fun _ => ?_) | (refine Hush.mp ?_ fun _ => ?_) | (refine hush_ite ?_ ?_) | (intro _) | split | (dsimp only))
theorem hush_twoPlaces (a b : Addr) : Calm P (Op.twoPlaces a b) := by
  unfold Op.twoPlaces
  repeat (first | exact trivial | rfl | assumption | exact hush_byteOf _ | exact hush_stuck _ | exact hush_panic _ | exact fun _ => trivial | exact ⟨trivial, trivial⟩ | (refine hush_prog ?_) | (refine Hush.bd ?_ fun _ => ?_) | (refine Hush.mp ?_ fun _ => ?_) | (refine hush_ite ?_ ?_) | (intro _) | split | (dsimp only))
theorem hush_addrSub (k : IntKind) (a b : Addr) : Calm P (Op.addrSub k a b) := by
  unfold Op.addrSub
  exact Hush.bd (hush_twoPlaces _ _) fun _ => hush_pure _ trivial
theorem hush_addrCmp (op : BinOp) (a b : Addr) : Calm P (Op.addrCmp op a b) := by
  unfold Op.addrCmp
  refine Hush.bd (hush_twoPlaces _ _) fun _ => ?_
  cases op <;> dsimp only <;> first | exact hush_pure _ trivial | exact rfl
theorem hush_addrMod (k : IntKind) (a : Addr) (n : Int) : Calm P (Op.addrMod k a n) := by
  unfold Op.addrMod
  repeat (first | exact trivial | rfl | assumption | exact hush_byteOf _ | exact hush_typeInfo _ | exact hush_stuck _ | exact hush_panic _ | exact fun _ => trivial | exact ⟨trivial, trivial⟩ | (refine hush_prog ?_) | (refine Hush.bd ?_ fun _ => ?_) | (refine Hush.mp ?_ fun _ => ?_) | (refine hush_ite ?_ ?_) | (intro _) | split | (dsimp only))
theorem hush_fin {s : Sem Bool} {f : Bool → Value} (h : Calm P s) : Calm P (do Pure.pure (f (← s)) : Sem Value) := Hush.bd h fun _ => hush_pure _ trivial
theorem hush_binOp {op : BinOp} {t : TypeId} (h : (op ≠ .eql ∧ op ≠ .neq) ∨ flatEq P t = true) (x y : Value) : Calm P (binOp op t x y) := by
  unfold binOp
  split
  all_goals first
    | exact hush_shift _ _ _ _ _
    | exact hush_stringOp _ _ _
    | exact hush_movedNumber _ _ _
    | exact hush_stuck _
    | exact rfl
    | (refine hush_ite (hush_stuck _) ?_
       first
         | exact hush_complexOp _ _ _ _ _ _
         | (split <;> first
             | exact hush_intArith _ _ _ _
             | exact hush_intDiv _ _ _ _
             | exact hush_intBits _ _ _ _
             | exact hush_intCmp _ _ _
             | exact hush_floatArith _ _ _ _
             | exact hush_floatCmp _ _ _ _))
    | exact hush_fin (hush_equal (h.elim (fun h => absurd rfl h.1) id) _ _)
    | exact hush_fin (hush_equal (h.elim (fun h => absurd rfl h.2) id) _ _)
    | (refine Hush.bd (hush_underlying _) fun d => ?_
       split <;> first | exact hush_movedPointer _ _ _ | exact hush_movedNumber _ _ _)
    | (refine Hush.bd (hush_behindNumber _) fun _ => Hush.bd (hush_behindNumber _) fun _ => ?_
       first | exact hush_addrSub _ _ _ | exact hush_addrCmp _ _ _)
    | exact Hush.bd (hush_behindNumber _) fun _ => hush_addrMod _ _ _
end
def intTo (P : Program) (s d : TypeId) : Bool := match P.underlying s, P.underlying d with
  | some (.int _), some (.int _) => true
  | _, _ => false
def bytesTo (P : Program) (s d : TypeId) : Bool := match P.underlying s, P.underlying d with
  | some (.slice e), some .string => (match P.underlying e with | some (.int .u8) => true | _ => false)
  | _, _ => false
def bytesSame (P : Program) (s d : TypeId) : Bool := s == d && match P.underlying s with
  | some (.slice e) => (match P.underlying e with | some (.int .u8) => true | _ => false)
  | _ => false
structure Als where
  a : Nat → Bool
  f : Nat → Nat → Bool
  b : Nat → Bool
  r : Nat → Bool
  x : Nat → Bool
instance : CoeFun Als (fun _ => Nat → Bool) := ⟨Als.a⟩
def okCallT (Al : Als) (F : Nat → Bool) (c : Call) : Bool := match c.callee with
  | .value (.func h) => (Al h && !Al.b h && (List.range c.args.size).all fun t => !Al.f h t) || Al.x h
  | .value (.tmp t) => F t
  | .builtin .append | .builtin .len | .builtin .min | .builtin .max | .builtin .cap | .builtin .clear | .builtin .copy => true
  | _ => false
def okOpT (P : Program) (Al : Als) (F : Nat → Bool) : Op → Bool
  | .move _ | .assign _ | .box _ _ | .load _ _ | .unOp _ _ _ | .extract _ _ | .sliceToArrayPointer _ _ | .pick _ _ _ | .alloc _ | .store _ _ _ | .build _ _ | .buildSlice _ _ _ | .fieldAddr _ _ _ | .field _ _ _ | .makeInterface _ _ | .makeFunc _ _ _ | .makeSlice _ _ _ | .slice _ _ _ _ _ | .indexAddr _ _ _ | .index _ _ _ | .panic _ => true
  | .nilCheck _ => true
  | .binOp op t _ _ _ => (op != .eql && op != .neq) || flatEq P t
  | .convert s d _ => intTo P s d || bytesTo P s d || bytesSame P s d
  | .call c => okCallT Al F c
  | _ => false
def okFn (Al : Als) (h : Nat) : Bool := Al h && !Al.b h && (List.range 200).all fun t => !Al.f h t
def okDst (Al : Als) (F : Nat → Bool) (o : Oper) : Bool := match o.dst with
  | none => true
  | some d => !F d || (match o.op with
    | .move (.func h) | .assign (.func h) => okFn Al h
    | .move (.tmp u) | .assign (.tmp u) => F u
    | .assign (.const .nilFunc) => true
    | .makeFunc (.func h) x _ => x.isEmpty && okFn Al h
    | .call c => (match c.callee with | .value (.func h) => Al.r h && !Al.x h | _ => false)
    | _ => false)
def okOperT (P : Program) (Al : Als) (F : Nat → Bool) (o : Oper) : Bool := okOpT P Al F o.op && okDst Al F o
def FnV (Al : Als) (v : Value) : Prop := v = undef ∨ v = .nilFunc ∨ ∃ h Y, v = .func (.func h) #[] Y ∧ okFn Al h = true
def OkNext (Al : Als) : Next → Prop
  | .value _ => True
  | .skip => True
  | .enter f x => Al f = true ∧ Al.b f = false ∧ ∀ t, t < x.size → t < 200 → Al.f f t = false
  | _ => False
def BodiesT (P : Program) (Al : Als) : Prop := ∀ f, Al f = true → ∃ fn, P.funcs[f]? = some fn ∧ (fn.name == "runtime.NumGoroutine") = false ∧ fn.body.isNone = false
section
variable {P : Program} {Al : Als} {F : Nat → Bool} {ev : Operand → Value}
theorem hush_value {s : Sem Value} (h : Calm P s) : Hush P (OkNext Al) (do Pure.pure (Next.value (← s))) := Hush.bd h fun _ => trivial
theorem hush_unit {s : Sem Unit} (h : Calm P s) : Hush P (OkNext Al) (do s; Pure.pure Next.skip) := Hush.bd h fun _ => trivial
theorem hush_convert {s d : TypeId} (h : intTo P s d = true) (x : Value) : Calm P (convert s d x) := by
  unfold intTo at h
  split at h
  · rename_i k k' h1 h2
    unfold convert
    refine hush_und fun d1 e1 => ?_
    rw [h1] at e1
    cases e1
    refine hush_und fun d2 e2 => ?_
    rw [h2] at e2
    cases e2
    split <;> first
      | contradiction
      | exact hush_floatToInt _ _ _
      | exact hush_pure _ trivial
      | exact hush_stuck _
      | exact rfl
  · cases h
theorem hush_bytesToString (x : Value) : Calm P (Conv.bytesToString x) := by
  unfold Conv.bytesToString
  split
  · exact trivial
  · refine Hush.bd (hush_loadCells _ _) fun cs => ?_
    rw [← Array.forIn_toList]
    refine Hush.bd (hush_forIn _ (fun x b => ?_) _ _) fun _ => trivial
    split
    · exact trivial
    · exact hush_stuck _
  · exact hush_stuck _
theorem hush_convertB {s d : TypeId} (h : bytesTo P s d = true) (x : Value) : Calm P (convert s d x) := by
  unfold bytesTo at h
  split at h
  · rename_i e h1 h2
    split at h
    · rename_i h3
      unfold convert
      refine hush_und fun d1 e1 => ?_
      rw [h1] at e1
      cases e1
      refine hush_und fun d2 e2 => ?_
      rw [h2] at e2
      cases e2
      split <;> first
        | contradiction
        | exact hush_pure _ trivial
        | exact hush_stuck _
        | exact rfl
        | (rename_i he _ _ _
           cases he
           refine hush_und fun d3 e3 => ?_
           rw [h3] at e3
           cases e3
           exact hush_bytesToString _)
    · cases h
  · cases h
theorem hush_markStringish (a : Addr) : Calm P (markStringish a) := by
  unfold markStringish
  repeat (first | exact trivial | rfl | assumption | exact hush_shape _ | exact hush_freeze _ _ | exact hush_stuck _ | exact hush_panic _ | exact fun _ => trivial | exact ⟨trivial, trivial⟩ | (refine hush_prog ?_) | (refine Hush.bd ?_ fun _ => ?_) | (refine Hush.mp ?_ fun _ => ?_) | (refine hush_ite ?_ ?_) | (intro _) | split | (dsimp only))
theorem hush_stringToBytes (e : TypeId) (s : ByteArray) : Calm P (Conv.stringToBytes e s) := by
  unfold Conv.stringToBytes
  repeat (first | exact trivial | rfl | assumption | exact hush_newRow _ _ | exact hush_markStringish _ | exact hush_choose _ | exact hush_stuck _ | exact hush_panic _ | exact fun _ => trivial | exact ⟨trivial, trivial⟩ | (refine hush_prog ?_) | (refine Hush.bd ?_ fun _ => ?_) | (refine Hush.mp ?_ fun _ => ?_) | (refine hush_ite ?_ ?_) | (intro _) | split | (dsimp only))
theorem hush_convertS {s d : TypeId} (h : bytesSame P s d = true) (x : Value) : Calm P (convert s d x) := by
  unfold bytesSame at h
  simp only [Bool.and_eq_true, beq_iff_eq] at h
  obtain ⟨rfl, h⟩ := h
  split at h
  · rename_i e h1
    split at h
    · rename_i h3
      unfold convert
      refine hush_und fun d1 e1 => ?_
      rw [h1] at e1
      cases e1
      refine hush_und fun d2 e2 => ?_
      rw [h1] at e2
      cases e2
      split <;> first
        | contradiction
        | exact hush_pure _ trivial
        | exact hush_stuck _
        | exact rfl
        | (try simp only [TypeDesc.slice.injEq] at *
           subst_vars
           refine hush_und fun d3 e3 => ?_
           rw [h3] at e3
           cases e3
           first
             | exact hush_stringToBytes _ _
             | (rw [beq_self_eq_true]
                exact Hush.bd (hush_markStringish _) fun _ => trivial))
    · cases h
  · cases h
def ExtT (P : Program) (Al : Als) : Prop := ∀ f, Al.x f = true → ∀ args, Hush P (OkNext Al) (callFunc f args)
theorem run_entered (hB : BodiesT P Al) {f : FuncId} (hf : Al f = true) (x : Array Value) (w : World) (es : Array Event) : (callFunc f x).runT P w es = (.ok (.enter f x) w, es) := by
  obtain ⟨fn, h1, h2, h3⟩ := hB f hf
  unfold callFunc
  show (Sem.runT P ((match P.funcs[f]? with | none => _ | some fn => _) : Sem Next) w es) = _
  rw [h1]
  dsimp only
  rw [h2, h3]
  rfl
theorem hush_callFunc (hB : BodiesT P Al) {f : FuncId} (hf : Al f = true) (hb : Al.b f = false) (x : Array Value) (hx : ∀ t, t < x.size → t < 200 → Al.f f t = false) : Hush P (OkNext Al) (callFunc f x) := by
  obtain ⟨fn, h1, h2, h3⟩ := hB f hf
  unfold callFunc
  refine hush_prog ?_
  rw [h1]
  dsimp only
  rw [h2, h3]
  exact ⟨hf, hb, hx⟩
theorem okFn_of {h : Nat} (hh : okFn Al h = true) : Al h = true ∧ Al.b h = false ∧ ∀ t, t < 200 → Al.f h t = false := by
  simp only [okFn, Bool.and_eq_true, List.all_eq_true, List.mem_range, Bool.not_eq_true'] at hh
  exact ⟨hh.1.1, hh.1.2, hh.2⟩
theorem hush_followBlind (l : List FieldStep) : ∀ (t : TypeId) (x : Option Value), Calm P (followBlind l t x) := by
  induction l with
  | nil => exact fun t x => trivial
  | cons s l ih =>
    intro t x
    unfold followBlind
    repeat (first | exact trivial | rfl | assumption | exact ih _ _ | exact hush_underlying _ | exact hush_part _ _ _ | exact hush_stuck _ | exact hush_panic _ | exact fun _ => trivial | exact ⟨trivial, trivial⟩ | (refine hush_prog ?_) | (refine Hush.bd ?_ fun _ => ?_) | (refine Hush.mp ?_ fun _ => ?_) | (refine hush_ite ?_ ?_) | (intro _) | split | (dsimp only))
theorem hush_nilAhead (n : Nat) : ∀ (t : TypeId) (v : Value) (m : String), Calm P (nilAhead n t v m) := by
  induction n with
  | zero => exact fun t v m => trivial
  | succ n ih =>
    intro t v m
    unfold nilAhead
    repeat (first | exact trivial | rfl | assumption | exact ih _ _ _ | exact hush_underlying _ | exact hush_typeInfo _ | exact hush_followBlind _ _ _ | exact hush_stuck _ | exact hush_panic _ | exact fun _ => trivial | exact ⟨trivial, trivial⟩ | (refine hush_prog ?_) | (refine Hush.bd ?_ fun _ => ?_) | (refine Hush.mp ?_ fun _ => ?_) | (refine hush_ite ?_ ?_) | (intro _) | split | (dsimp only))
theorem hush_execOp (hFn : ∀ f, ev (.func f) = .func (.func f) #[] #[]) (hF : ∀ t, F t = true → FnV Al (ev (.tmp t))) (hB : BodiesT P Al) (hX : ExtT P Al) (o : Oper) (ho : okOpT P Al F o.op = true) (hp : ∀ x, o.op ≠ .panic x) : Hush P (OkNext Al) (execOp ev o) := by
  obtain ⟨dst, op, type, pos, after, guard⟩ := o
  simp only at ho hp
  cases op with
  | move x => exact trivial
  | assign x => exact trivial
  | pick a b c => exact Hush.bd (hush_asBool _) fun _ => trivial
  | alloc e => exact hush_value (hush_alloc _ _ _)
  | box e x => exact hush_value (hush_box _ _)
  | load t a => exact hush_value (hush_loadAt _ _)
  | store t a x => exact hush_unit (hush_storeAt _ _ _)
  | nilCheck x =>
    unfold execOp
    dsimp only
    split
    · exact hush_runtimePanic _
    · exact hush_runtimePanic _
    · exact hush_runtimePanic _
    · split
      · exact hush_runtimePanic _
      · refine hush_prog (Hush.bd (hush_nilAhead _ _ _ _) fun _ => hush_ite ?_ trivial)
        exact rfl
      · exact trivial
    · exact trivial
  | binOp op t x y r =>
    simp only [okOpT, Bool.or_eq_true, Bool.and_eq_true, bne_iff_ne] at ho
    refine hush_value (Hush.bd ?_ fun _ => hush_binOp ho _ _)
    rcases ho with h | h
    · exact hush_guardNot t h _ _ _ _
    · exact hush_eqGuard h _ _ _ _ _
  | build t p => exact hush_value (hush_build _ _)
  | buildSlice t n p => exact hush_value (hush_buildSlice _ _ _)
  | fieldAddr s x f => exact hush_value (hush_fieldAt _ _ _)
  | field s x f => exact hush_value (hush_field _ _ _)
  | makeInterface t x => exact hush_value (hush_makeInterface _ _)
  | panic x => exact absurd rfl (hp x)
  | unOp op t x => exact hush_value (hush_unary _ _)
  | convert s d x =>
    simp only [okOpT, Bool.or_eq_true] at ho
    exact hush_value (ho.elim (fun h => h.elim (fun h => hush_convert h _) fun h => hush_convertB h _) fun h => hush_convertS h _)
  | sliceToArrayPointer t x => exact hush_value (hush_arrayAt _ _)
  | makeFunc fn x y => exact trivial
  | makeSlice t l c => exact hush_value (hush_makeSlice _ _ _)
  | slice t x lo hi mx => exact hush_value (hush_sliceAt _ _ _ _ _)
  | indexAddr t x i => exact hush_value (hush_indexAt _ _ _)
  | index t x i => exact hush_value (hush_index _ _ _)
  | extract x i => exact hush_value (hush_extract _ _)
  | call c =>
    obtain ⟨callee, args, argTypes⟩ := c
    simp only [okOpT, okCallT] at ho
    cases callee with
    | value f =>
      cases f with
      | func h =>
        show Hush P (OkNext Al) (do let d ← Deferred.ofValue (ev (.func h)) (args.map ev); invoke d.target d.args)
        rw [hFn]
        simp only [Bool.or_eq_true, Bool.and_eq_true, List.all_eq_true, List.mem_range, Bool.not_eq_true'] at ho
        rcases ho with ho | ho
        · exact hush_callFunc hB ho.1.1 ho.1.2 _ fun t ht _ => ho.2 t (by simpa using ht)
        · exact hX h ho _
      | tmp t =>
        show Hush P (OkNext Al) (do let d ← Deferred.ofValue (ev (.tmp t)) (args.map ev); invoke d.target d.args)
        rcases hF t ho with h | h | ⟨h, Y, e, hh⟩
        · rw [h]; exact rfl
        · rw [h]; show Hush P (OkNext Al) (runtimePanic .nilDeref : Sem Next); exact hush_runtimePanic _
        · rw [e]; exact hush_callFunc hB (okFn_of hh).1 (okFn_of hh).2.1 _ fun u _ hu => (okFn_of hh).2.2 u hu
      | _ => cases ho
    | builtin b =>
      cases b with
      | append => exact hush_value (hush_append _ _ _)
      | len => exact hush_value (hush_len _ _ _)
      | cap => exact hush_value (hush_cap _ _ _)
      | clear => exact hush_value (hush_clear _ _ _)
      | min => exact hush_value (hush_min _ _ _)
      | max => exact hush_value (hush_max _ _ _)
      | copy => exact hush_value (hush_copy _ _ _)
      | _ => cases ho
    | _ => cases ho
  | _ => cases ho
theorem hush_results (fn : Func) (x : Array Value) : Calm P (results fn x) := by
  unfold results
  refine Hush.bd (hush_arrayM _ _ fun r => ?_) fun _ => hush_pure _ trivial
  cases r with
  | tmp t => exact trivial
  | cell a t => exact Hush.bd (hush_asAddr _) fun _ => hush_loadVar _ _
theorem dst_fn (hFn : ∀ f, ev (.func f) = .func (.func f) #[] #[]) (hC : ev (.const .nilFunc) = .nilFunc) (hF : ∀ t, F t = true → FnV Al (ev (.tmp t))) (hB : BodiesT P Al) (o : Oper) (hop : okOpT P Al F o.op = true) (ho : okDst Al F o = true) {d : Nat} (hd : o.dst = some d) (hFd : F d = true) {w w1 : World} {v : Value} {es : Array Event} (hr : (execOp ev o).runT P w #[] = (.ok (.value v) w1, es)) : FnV Al v := by
  obtain ⟨dst, op, type, pos, after, guard⟩ := o
  simp only at hd
  subst hd
  simp only [okDst, hFd, Bool.not_true, Bool.false_or] at ho
  have key : ∀ x, (execOp ev ⟨some d, op, type, pos, after, guard⟩) = .pure (.value (ev x)) → ev x = v := fun x e => by
    rw [e] at hr
    simp only [Sem.runT, Prod.mk.injEq, Result.ok.injEq, Next.value.injEq] at hr
    exact hr.1.1
  split at ho
  · rename_i h
    rw [← key (.func h) rfl, hFn]
    exact .inr (.inr ⟨h, _, rfl, ho⟩)
  · rename_i h
    rw [← key (.func h) rfl, hFn]
    exact .inr (.inr ⟨h, _, rfl, ho⟩)
  · rename_i u
    rw [← key (.tmp u) rfl]
    exact hF u ho
  · rename_i u
    rw [← key (.tmp u) rfl]
    exact hF u ho
  · rw [← key (.const .nilFunc) rfl, hC]
    exact .inr (.inl rfl)
  · rename_i h x y
    simp only [Bool.and_eq_true, Array.isEmpty_iff] at ho
    have e : (execOp ev ⟨some d, .makeFunc (.func h) x y, type, pos, after, guard⟩) = .pure (.value (.func (.func h) (x.map ev) (y.map ev))) := rfl
    rw [e] at hr
    simp only [Sem.runT, Prod.mk.injEq, Result.ok.injEq, Next.value.injEq] at hr
    exact .inr (.inr ⟨h, y.map ev, by rw [← hr.1.1, ho.1]; simp, ho.2⟩)
  · rename_i c
    obtain ⟨callee, args, argTypes⟩ := c
    split at ho
    · rename_i h hc
      simp only at hc
      subst hc
      simp only [Bool.and_eq_true, Bool.not_eq_true'] at ho
      simp only [okOpT, okCallT, ho.2, Bool.or_false, Bool.and_eq_true] at hop
      have e : (execOp ev ⟨some d, .call ⟨.value (.func h), args, argTypes⟩, type, pos, after, guard⟩) = (do let x ← Deferred.ofValue (ev (.func h)) (args.map ev); invoke x.target x.args) := rfl
      rw [e, hFn] at hr
      have e2 : (do let x ← Deferred.ofValue (.func (.func h) #[] #[]) (args.map ev); invoke x.target x.args : Sem Next) = callFunc h ((#[] ++ args.map ev) ++ #[]) := rfl
      rw [e2, run_entered hB hop.1.1] at hr
      simp at hr
    · cases ho
  · cases ho
/-! ### a panic asks the system -/
def Dies {α : Type} (P : Program) : Sem α → Prop
  | .pure _ => False
  | .load _ _ k => ∀ v, Dies P (k v)
  | .store _ _ _ k => Dies P k
  | .new _ k => ∀ r, Dies P (k r)
  | .shape _ k => ∀ r, Dies P (k r)
  | .freeze _ _ k => Dies P k
  | .frozen _ k => ∀ b, Dies P (k b)
  | .getObj _ k => ∀ o, Dies P (k o)
  | .setObj _ _ k => Dies P k
  | .choose _ k => ∀ n, Dies P (k n)
  | .sys _ k => ∀ r, Dies P (k r)
  | .program k => Dies P (k P)
  | .mark _ k => Dies P k
  | .halt y => okHalt y = true
theorem Dies.of_hush {α : Type} {s : Sem α} : Hush P (fun _ => False) s → Dies P s := by
  induction s with
  | pure a => exact fun h => h
  | load m a k ih => exact fun h v => ih v (h v)
  | store m a v k ih => exact fun h => ih h
  | new o k ih => exact fun h v => ih v (h v)
  | shape r k ih => exact fun h v => ih v (h v)
  | freeze a n k ih => exact fun h => ih h
  | frozen a k ih => exact fun h v => ih v (h v)
  | getObj r k ih => exact fun h v => ih v (h v)
  | setObj r o k ih => exact fun h => ih h
  | choose q k ih => exact fun h v => ih v (h v)
  | sys c k ih => exact fun h => h.elim
  | program k ih => exact fun h => ih P h
  | mark m k ih => exact fun h => ih h.2
  | halt y => exact fun h => h
theorem Dies.bind {α β : Type} {s : Sem α} {f : α → Sem β} : Dies P s → Dies P (s.bind f) := by
  induction s with
  | pure a => exact fun h => h.elim
  | load m a k ih => exact fun h v => ih v (h v)
  | store m a v k ih => exact fun h => ih h
  | new o k ih => exact fun h v => ih v (h v)
  | shape r k ih => exact fun h v => ih v (h v)
  | freeze a n k ih => exact fun h => ih h
  | frozen a k ih => exact fun h v => ih v (h v)
  | getObj r k ih => exact fun h v => ih v (h v)
  | setObj r o k ih => exact fun h => ih h
  | choose q k ih => exact fun h v => ih v (h v)
  | sys c k ih => exact fun h v => ih v (h v)
  | program k ih => exact fun h => ih P h
  | mark m k ih => exact fun h => ih h
  | halt y => exact fun h => h
theorem dies_panic (x : Value) : Dies P (Instr.panic x) := by
  unfold Instr.panic
  cases x with
  | iface t v => exact rfl
  | nilIface =>
    intro r
    cases r with
    | strings env =>
      show Dies P (if _ then (goPanic .nilIface : Sem Value) else runtimePanic .panicNil)
      by_cases h : (Instr.readSettings "panicnil" (((env.find? fun s => s.extract 0 "GODEBUG=".toUTF8.size == "GODEBUG=".toUTF8).map fun s => s.extract "GODEBUG=".toUTF8.size s.size).getD .empty) (Instr.readSettings "panicnil" P.godebug.toUTF8 0) == 1) = true
      · rw [if_pos h]; exact rfl
      · rw [if_neg h]; exact Dies.of_hush (hush_runtimePanic _)
    | _ => exact rfl
  | _ => exact rfl
theorem sys_rows {G : Nat} {w : World} (h : CellsTo G w) (c : Sys) : CellsTo G (w.sys c).2 := by
  have ask : ∀ {α : Type} (k : Ask α) (w : World), (w.ask k).2.heap = w.heap := by
    intro α k
    induction k with
    | done a => exact fun w => rfl
    | ask what range k ih =>
      intro w
      simp only [World.ask]
      split
      · exact ih _ w
      · exact ih _ _
  have e : (w.sys c).2.heap = w.heap := by
    unfold World.sys
    have := ask (Kernel.perform c w.os) w
    split
    · rfl
    · rename_i r os w' hr hx
      rw [hx] at this
      exact this
  exact fun b hb => by rw [e]; exact h b hb
theorem run_dies {α : Type} {G : Nat} (s : Sem α) : Dies P s → ∀ (w : World) (es : Array Event), CellsTo G w → ∃ y w1 es1, s.runT P w es = (.halt y w1, es1) ∧ StopOk G y := by
  induction s with
  | pure a => exact fun h => h.elim
  | load m a k ih =>
    intro hs w es hw
    simp only [Sem.runT]
    split
    · exact ih _ (hs _) _ _ hw
    · split
      · exact ih _ (hs _) _ _ hw
      · exact ⟨_, _, _, rfl, farLoad_stop hw (by assumption)⟩
  | store m a v k ih =>
    intro hs w es hw
    cases v <;> simp only [Sem.runT]
    all_goals first
      | exact ⟨_, _, _, rfl, .inl rfl⟩
      | (split
         · split
           · exact ⟨_, _, _, rfl, .inl rfl⟩
           · exact ih hs _ _ (rows_cell hw _ _)
         · split
           · rename_i w' t hx
             rcases farStore_form w P a _ (m == .atomic) with ⟨y, h1, _⟩ | ⟨c, o, t', h1, _, _, _, h5⟩
             · rw [h1] at hx; cases hx
             · rw [h1] at hx
               cases hx
               exact ih hs _ _ (rows_set hw _ _ (.inl h5))
           · exact ⟨_, _, _, rfl, farStore_stop hw (by assumption)⟩)
  | new o k ih => exact fun hs w es hw => ih _ (hs _) _ _ (rows_push hw o)
  | shape r k ih => exact fun hs w es hw => ih _ (hs _) _ _ hw
  | freeze a n k ih => exact fun hs w es hw => ih hs _ _ (rows_freeze hw a n)
  | frozen a k ih => exact fun hs w es hw => ih _ (hs _) _ _ hw
  | getObj r k ih =>
    intro hs w es hw
    simp only [Sem.runT]
    split
    · exact ⟨_, _, _, rfl, .inl rfl⟩
    · exact ih _ (hs _) _ _ hw
    · exact ⟨_, _, _, rfl, .inl rfl⟩
  | setObj r o k ih =>
    intro hs w es hw
    simp only [Sem.runT]
    split
    · exact ⟨_, _, _, rfl, .inl rfl⟩
    · rename_i o' hne hx
      exact ih hs _ _ (rows_set hw _ _ (.inr (rows_low hw hx fun hr => by cases o' <;> first | exact hne _ _ _ rfl | cases hr)))
    · exact ⟨_, _, _, rfl, .inl rfl⟩
  | choose q k ih =>
    intro hs w es hw
    simp only [Sem.runT]
    split
    · exact ih _ (hs _) _ _ hw
    · exact ih _ (hs _) _ _ hw
  | sys c k ih => exact fun hs w es hw => ih _ (hs _) _ _ (sys_rows hw c)
  | program k ih => exact fun hs w es hw => ih _ hs _ _ hw
  | mark _ k ih => exact fun hs w es hw => ih hs _ _ hw
  | halt y => exact fun h w es hw => ⟨_, _, _, rfl, .inl h⟩
end
end Go.Proofs.YtnpffnhiefgglaaGreatDoor
namespace Go.Proofs.YtnpffnhiefgglaaGreatDoor
open Go
set_option maxRecDepth 100000
structure Ren where
  r : Nat → Nat → Prop
  G : Nat
  /-- Functions that a function value may be. -/
  A : Nat → Prop
  /-- Of a block of which only a part is known: where that part begins, and one (0: all of it is known). -/
  lo : Nat → Nat
  glo : ∀ b, b < G → lo b = 0
  /-- A type that is none. -/
  Bg : TypeId
  /-- Functions that may be called by name with so many arguments, and are told otherwise. -/
  D : Nat → Nat → Prop
instance : CoeFun Ren (fun _ => Nat → Nat → Prop) := ⟨Ren.r⟩
def Ren.le (ρ ρ' : Ren) : Prop := ρ'.G = ρ.G ∧ ρ'.A = ρ.A ∧ (∀ b b', ρ b b' → ρ' b b') ∧ ρ'.lo = ρ.lo ∧ ρ'.Bg = ρ.Bg ∧ ρ'.D = ρ.D
theorem Ren.le.app {ρ ρ' : Ren} (h : ρ.le ρ') {b b' : Nat} (k : ρ b b') : ρ' b b' := h.2.2.1 _ _ k
theorem Ren.le.lo {ρ ρ' : Ren} (h : ρ.le ρ') : ρ'.lo = ρ.lo := h.2.2.2.1
theorem Ren.le.bg {ρ ρ' : Ren} (h : ρ.le ρ') : ρ'.Bg = ρ.Bg := h.2.2.2.2.1
theorem Ren.le.dd {ρ ρ' : Ren} (h : ρ.le ρ') : ρ'.D = ρ.D := h.2.2.2.2.2
theorem Ren.le.refl (ρ : Ren) : ρ.le ρ := ⟨rfl, rfl, fun _ _ h => h, rfl, rfl, rfl⟩
theorem Ren.le.trans {ρ ρ' ρ'' : Ren} (h : ρ.le ρ') (h' : ρ'.le ρ'') : ρ.le ρ'' := ⟨h'.1.trans h.1, h'.2.1.trans h.2.1, fun _ _ k => h'.app (h.app k), h'.lo.trans h.lo, h'.bg.trans h.bg, h'.dd.trans h.dd⟩
def RelA (ρ : Ren) (a a' : Addr) : Prop := ρ a.block a'.block ∧ a'.off = a.off ∧ a'.spot = a.spot ∧ (a.block < ρ.G → a'.block = a.block) ∧ ρ.lo a.block ≤ a.off + 1
inductive RelV (ρ : Ren) : Value → Value → Prop
  | bool (b : Bool) : RelV ρ (.bool b) (.bool b)
  | int (k : IntKind) (n : Int) : RelV ρ (.int k n) (.int k n)
  | string (s : ByteArray) : RelV ρ (.string s) (.string s)
  | ptrNil : RelV ρ (.pointer none) (.pointer none)
  | ptr {a a' : Addr} (h : RelA ρ a a') : RelV ρ (.pointer (some a)) (.pointer (some a'))
  | sliceNil : RelV ρ (.slice none 0 0) (.slice none 0 0)
  | slice {a a' : Addr} (n c : Nat) (h : RelA ρ a a') : RelV ρ (.slice (some a) n c) (.slice (some a') n c)
  | mapNil : RelV ρ (.map none) (.map none)
  | chanNil : RelV ρ (.chan none) (.chan none)
  | func (f : FuncId) {x x' y y' : Array Value} (hA : ρ.A f) (hx : x.size = x'.size) (h1 : ∀ (i : Nat) v v', x[i]? = some v → x'[i]? = some v' → RelV ρ v v') (hy : y.size = y'.size) (h2 : ∀ (i : Nat) v v', y[i]? = some v → y'[i]? = some v' → RelV ρ v v') : RelV ρ (.func (.func f) x y) (.func (.func f) x' y')
  | nilFunc : RelV ρ .nilFunc .nilFunc
  | iface (t : TypeId) {v v' : Value} (h : RelV ρ v v') : RelV ρ (.iface t v) (.iface t v')
  | nilIface : RelV ρ .nilIface .nilIface
  | agg {x x' : Array Value} (hx : x.size = x'.size) (h : ∀ (i : Nat) v v', x[i]? = some v → x'[i]? = some v' → RelV ρ v v') : RelV ρ (.agg x) (.agg x')
  | tuple {x x' : Array Value} (hx : x.size = x'.size) (h : ∀ (i : Nat) v v', x[i]? = some v → x'[i]? = some v' → RelV ρ v v') : RelV ρ (.tuple x) (.tuple x')
def RelR (ρ : Ren) (x x' : Array Value) : Prop := x.size = x'.size ∧ ∀ (i : Nat) v v', x[i]? = some v → x'[i]? = some v' → RelV ρ v v'
theorem RelA.mono {ρ ρ' : Ren} (hle : ρ.le ρ') {a a' : Addr} (h : RelA ρ a a') : RelA ρ' a a' := ⟨hle.app h.1, h.2.1, h.2.2.1, fun k => h.2.2.2.1 (hle.1 ▸ k), by rw [hle.lo]; exact h.2.2.2.2⟩
theorem RelV.mono {ρ ρ' : Ren} (hle : ρ.le ρ') {v v' : Value} (h : RelV ρ v v') : RelV ρ' v v' := by
  induction h with
  | bool b => exact .bool b
  | int k n => exact .int k n
  | string s => exact .string s
  | ptrNil => exact .ptrNil
  | ptr h => exact .ptr (h.mono hle)
  | sliceNil => exact .sliceNil
  | slice n c h => exact .slice n c (h.mono hle)
  | mapNil => exact .mapNil
  | chanNil => exact .chanNil
  | func f hA hx _ hy _ ih1 ih2 => exact .func f (by rw [hle.2.1]; exact hA) hx ih1 hy ih2
  | nilFunc => exact .nilFunc
  | iface t _ ih => exact .iface t ih
  | nilIface => exact .nilIface
  | agg hx _ ih => exact .agg hx ih
  | tuple hx _ ih => exact .tuple hx ih
theorem RelR.mono {ρ ρ' : Ren} (hle : ρ.le ρ') {x x' : Array Value} (h : RelR ρ x x') : RelR ρ' x x' := ⟨h.1, fun i v v' h1 h2 => (h.2 i v v' h1 h2).mono hle⟩
/-! ### worlds -/
inductive RelO (ρ : Ren) (l : Nat) : Obj → Obj → Prop
  | cells {c c' : Array Value} (e : TypeId) {lo hi lo' hi' : Nat} (hl : l = 0) (hr : RelR ρ c c') (hf : ∀ i, lo' ≤ i → i < hi' → lo ≤ i ∧ i < hi) : RelO ρ l (.cells c e (lo, hi)) (.cells c' e (lo', hi'))
  | number {a a' : Addr} (z : Bool) (hl : l = 0) (h : RelA ρ a a') : RelO ρ l (.number a z) (.number a' z)
  | part {c c' : Array Value} {e' : TypeId} {hi : Nat} {fz : Nat × Nat} (hl : l ≠ 0) (hh : c.size ≤ hi) (hr : ∀ i v, l ≤ i + 1 → c[i]? = some v → ∃ v', c'[i]? = some v' ∧ RelV ρ v v') : RelO ρ l (.cells c ρ.Bg (0, hi)) (.cells c' e' fz)
structure RelW (L : Nat) (Sh : Nat → Prop) (ρ : Ren) (w w' : World) : Prop where
  obj : ∀ b b', ρ b b' → ∃ o o', w.heap[b]? = some o ∧ w'.heap[b']? = some o' ∧ RelO ρ (ρ.lo b) o o'
  fn : ∀ b b' c', ρ b b' → ρ b c' → b' = c'
  inj : ∀ b c b', ρ b b' → ρ c b' → b = c ∨ (Sh b ∧ Sh c)
  low0 : ∀ b, w.heap.size ≤ b → ρ.lo b = 0
  tape : ∀ i q, w.drawn + i < L → w.tape (w.drawn + i) q = w'.tape (w'.drawn + i) q
  shared : ∀ b b', Sh b → ρ b b' → ∃ c e hi, w.heap[b]? = some (.cells c e (0, hi)) ∧ c.size ≤ hi
theorem RelO.mono {ρ ρ' : Ren} (hle : ρ.le ρ') {l : Nat} {o o' : Obj} (h : RelO ρ l o o') : RelO ρ' l o o' := by
  cases h with
  | cells e hl hr hf => exact .cells e hl (hr.mono hle) hf
  | number z hl h => exact .number z hl (h.mono hle)
  | part hl hh hr =>
    rw [← hle.bg]
    exact .part hl hh fun i v h1 h2 => let ⟨v', h3, h4⟩ := hr i v h1 h2; ⟨v', h3, h4.mono hle⟩
def ShapeR (ρ : Ren) (l : Nat) (s s' : Option (TypeId × Nat)) : Prop := (l = 0 ∧ s = s') ∨ (l ≠ 0 ∧ ∃ m e' m', s = some (ρ.Bg, m) ∧ s' = some (e', m'))
theorem RelW.lt {L : Nat} {Sh : Nat → Prop} {ρ : Ren} {w w' : World} (h : RelW L Sh ρ w w') {b b' : Nat} (hb : ρ b b') : b < w.heap.size ∧ b' < w'.heap.size := by
  obtain ⟨o, o', h1, h2, _⟩ := h.obj b b' hb
  exact ⟨(Array.getElem?_eq_some_iff.1 h1).1, (Array.getElem?_eq_some_iff.1 h2).1⟩
structure Frm (Sh : Nat → Prop) (ρ ρ1 : Ren) (w w1 w' w1' : World) : Prop where
  le : ρ.le ρ1
  new : ∀ b b', ρ1 b b' → ρ b b' ∨ ∃ j, b = w.heap.size + j ∧ b' = w'.heap.size + j
  size : w.heap.size ≤ w1.heap.size
  size' : w'.heap.size ≤ w1'.heap.size
  grow : w1.heap.size + w'.heap.size = w1'.heap.size + w.heap.size
  draws : w.drawn ≤ w1.drawn ∧ w1.drawn + w'.drawn = w1'.drawn + w.drawn
  all : ∀ b', w'.heap.size ≤ b' → b' < w1'.heap.size → ∃ b, ρ1 b b'
  rest : ∀ b', b' < w'.heap.size → (∀ b, ¬ ρ b b') → w1'.heap[b']? = w'.heap[b']?
  os : w1'.os = w'.os
  output : w1'.output = w'.output
  tape : w1'.tape = w'.tape
  gtape : w1.tape = w.tape
  /-- What is shared is not written. -/
  still : ∀ b b', Sh b → ρ b b' → w1'.heap[b']? = w'.heap[b']?
theorem Frm.refl {Sh : Nat → Prop} (ρ : Ren) (w w' : World) : Frm Sh ρ ρ w w w' w' := ⟨.refl _, fun _ _ h => .inl h, Nat.le_refl _, Nat.le_refl _, Nat.add_comm _ _, ⟨Nat.le_refl _, Nat.add_comm _ _⟩, fun _ h1 h2 => absurd h2 (by omega), fun _ _ _ => rfl, rfl, rfl, rfl, rfl, fun _ _ _ _ => rfl⟩
theorem Frm.trans {Sh : Nat → Prop} {ρ ρ1 ρ2 : Ren} {w w1 w2 w' w1' w2' : World} (h : Frm Sh ρ ρ1 w w1 w' w1') (k : Frm Sh ρ1 ρ2 w1 w2 w1' w2') : Frm Sh ρ ρ2 w w2 w' w2' := by
  have g1 := h.grow
  have g2 := k.grow
  have s1 := h.size
  have s2 := k.size
  have d1 := h.draws
  have d2 := k.draws
  refine ⟨h.le.trans k.le, fun b b' hb => ?_, Nat.le_trans h.size k.size, Nat.le_trans h.size' k.size', by omega, ⟨by omega, by omega⟩, fun b' h1 h2 => ?_, fun b' hb hno => ?_, k.os.trans h.os, k.output.trans h.output, k.tape.trans h.tape, k.gtape.trans h.gtape, fun b b' hs hb => (k.still b b' hs (h.le.app hb)).trans (h.still b b' hs hb)⟩
  · rcases k.new b b' hb with h1 | ⟨j, h1, h2⟩
    · exact h.new b b' h1
    · exact .inr ⟨j + (w1.heap.size - w.heap.size), by omega, by omega⟩
  · by_cases hb : b' < w1'.heap.size
    · obtain ⟨b, hb⟩ := h.all b' h1 hb
      exact ⟨b, k.le.app hb⟩
    · exact k.all b' (by omega) h2
  · rw [k.rest b' (Nat.lt_of_lt_of_le hb h.size') (fun b hb1 => (h.new b b' hb1).elim (hno b) (fun ⟨j, x, y⟩ => by omega)), h.rest b' hb hno]
def EvR (Sh : Nat → Prop) (ρ : Ren) (e : Event) : Prop := (∃ a b, e.loc = .cell a ∧ e.sync = false ∧ ρ b a.block ∧ (e.write = true → ¬ Sh b)) ∨ (∃ r b, e.loc = .obj r ∧ e.write = false ∧ e.sync = false ∧ ρ b r) ∨ e.loc = .mark .noRoom
structure Fits (P : Program) (ρ : Ren) : Prop where
  size : ρ.G = P.globals.size
  bog : P.info? ρ.Bg = none
theorem Fits.mono {P : Program} {ρ ρ' : Ren} (h : Fits P ρ) (hle : ρ.le ρ') : Fits P ρ' := ⟨hle.1.trans h.size, by rw [hle.bg]; exact h.bog⟩
/-! ### pieces of the semantics -/
class Kin (Pg P : Program) : Prop where
  tables : Pg.toTables = P.toTables
instance kin_self (P : Program) : Kin P P := ⟨rfl⟩
def tame : Halt → Bool
  | .panic _ | .stuck _ => true
  | .unsupported (.initOrder _) => false
  | .unsupported _ => true
  | _ => false
def TameS (P : Program) {α : Type} (s : Sem α) : Prop := ∀ w h w1, s.run P w = .halt h w1 → tame h = true
def Dead (P : Program) {α : Type} (s : Sem α) : Prop := (∀ w a w1, s.run P w ≠ .ok a w1) ∧ TameS P s
inductive SimS (Pg P : Program) [Kin Pg P] {α β : Type} (Q : Ren → α → β → Prop) : Ren → Sem α → Sem β → Prop
  | dead {ρ : Ren} {s : Sem α} {s' : Sem β} (h : Dead Pg s) : SimS Pg P Q ρ s s'
  | pure {ρ : Ren} {a : α} {b : β} (h : Q ρ a b) : SimS Pg P Q ρ (.pure a) (.pure b)
  | load {ρ : Ren} {a a' : Addr} {k : Value → Sem α} {k' : Value → Sem β} (ha : RelA ρ a a') (h : ∀ v v', RelV ρ v v' → SimS Pg P Q ρ (k v) (k' v')) : SimS Pg P Q ρ (.load .plain a k) (.load .plain a' k')
  | store {ρ : Ren} {a a' : Addr} {v v' : Value} {k : Sem α} {k' : Sem β} (ha : RelA ρ a a') (hv : RelV ρ v v') (h : SimS Pg P Q ρ k k') : SimS Pg P Q ρ (.store .plain a v k) (.store .plain a' v' k')
  | new {ρ : Ren} {o o' : Obj} {k : Nat → Sem α} {k' : Nat → Sem β} (ho : RelO ρ 0 o o') (h : ∀ (ρ' : Ren) r r', ρ.le ρ' → ρ' r r' → ρ'.G ≤ r → ρ'.lo r = 0 → SimS Pg P Q ρ' (k r) (k' r')) : SimS Pg P Q ρ (.new o k) (.new o' k')
  | shape {ρ : Ren} {r r' : Nat} {k : Option (TypeId × Nat) → Sem α} {k' : Option (TypeId × Nat) → Sem β} (hr : ρ r r') (h : ∀ s s', ShapeR ρ (ρ.lo r) s s' → SimS Pg P Q ρ (k s) (k' s')) : SimS Pg P Q ρ (.shape r k) (.shape r' k')
  | getObj {ρ : Ren} {r r' : Nat} {k : Obj → Sem α} {k' : Obj → Sem β} (hr : ρ r r') (h : ∀ a a' l, RelA ρ a a' → SimS Pg P Q ρ (k (.number a l)) (k' (.number a' l))) : SimS Pg P Q ρ (.getObj r k) (.getObj r' k')
  | choose {ρ : Ren} (q : Question) {k : Nat → Sem α} {k' : Nat → Sem β} (h : ∀ n, SimS Pg P Q ρ (k n) (k' n)) : SimS Pg P Q ρ (.choose q k) (.choose q k')
  | program {ρ : Ren} {k : Program → Sem α} {k' : Program → Sem β} (h : SimS Pg P Q ρ (k Pg) (k' P)) : SimS Pg P Q ρ (.program k) (.program k')
  | room {ρ : Ren} {k : Sem α} {k' : Sem β} (h : SimS Pg P Q ρ k k') : SimS Pg P Q ρ (.mark .noRoom k) (.mark .noRoom k')
theorem run_bind_ok {α γ : Type} {p : Program} {s : Sem α} {f : α → Sem γ} {w w1 : World} {c : γ} (h : (s.bind f).run p w = .ok c w1) : ∃ a w0, s.run p w = .ok a w0 := by
  induction s generalizing w with
  | pure a => exact ⟨a, w, rfl⟩
  | load m a k ih =>
    simp only [Sem.bind, Sem.run] at h ⊢
    split at h
    · exact ih _ h
    · split at h
      · exact ih _ h
      · cases h
  | store m a v k ih =>
    cases v <;> simp only [Sem.bind, Sem.run] at h ⊢
    all_goals first
      | (cases h; done)
      | (split at h
         · split at h
           · cases h
           · rename_i h1; simp only [h1]; exact ih h
         · split at h
           · exact ih h
           · cases h)
  | new o k ih => exact ih _ h
  | shape r k ih => exact ih _ h
  | freeze a n k ih => exact ih h
  | frozen a k ih => exact ih _ h
  | getObj r k ih =>
    simp only [Sem.bind, Sem.run] at h ⊢
    split at h
    · cases h
    · exact ih _ h
    · cases h
  | setObj r o k ih =>
    simp only [Sem.bind, Sem.run] at h ⊢
    split at h
    · cases h
    · exact ih h
    · cases h
  | choose q k ih =>
    simp only [Sem.bind, Sem.run] at h ⊢
    by_cases hq : q.forced = true
    · rw [if_pos hq] at h ⊢
      exact ih _ h
    · rw [if_neg hq] at h ⊢
      exact ih _ h
  | sys c k ih => exact ih _ h
  | program k ih => exact ih _ h
  | mark m k ih => exact ih h
  | halt x => cases h
theorem run_bind_halt {α γ : Type} {p : Program} {s : Sem α} {f : α → Sem γ} {w w1 : World} {x : Halt} (h : (s.bind f).run p w = .halt x w1) : s.run p w = .halt x w1 ∨ ∃ a w0, s.run p w = .ok a w0 ∧ (f a).run p w0 = .halt x w1 := by
  induction s generalizing w with
  | pure a => exact .inr ⟨a, w, rfl, h⟩
  | load m a k ih =>
    simp only [Sem.bind, Sem.run] at h ⊢
    split at h
    · exact ih _ h
    · split at h
      · exact ih _ h
      · cases h; exact .inl rfl
  | store m a v k ih =>
    cases v <;> simp only [Sem.bind, Sem.run] at h ⊢
    all_goals first
      | (cases h; exact .inl rfl)
      | (split at h
         · split at h
           · rename_i h1; simp only [h1, if_true]; cases h; exact .inl rfl
           · rename_i h1; simp only [h1]; exact ih h
         · split at h
           · exact ih h
           · cases h; exact .inl rfl)
  | new o k ih => exact ih _ h
  | shape r k ih => exact ih _ h
  | freeze a n k ih => exact ih h
  | frozen a k ih => exact ih _ h
  | getObj r k ih =>
    simp only [Sem.bind, Sem.run] at h ⊢
    split at h
    · cases h; exact .inl rfl
    · exact ih _ h
    · cases h; exact .inl rfl
  | setObj r o k ih =>
    simp only [Sem.bind, Sem.run] at h ⊢
    split at h
    · cases h; exact .inl rfl
    · exact ih h
    · cases h; exact .inl rfl
  | choose q k ih =>
    simp only [Sem.bind, Sem.run] at h ⊢
    by_cases hq : q.forced = true
    · rw [if_pos hq] at h ⊢
      exact ih _ h
    · rw [if_neg hq] at h ⊢
      exact ih _ h
  | sys c k ih => exact ih _ h
  | program k ih => exact ih _ h
  | mark m k ih => exact ih h
  | halt y => cases h; exact .inl rfl
theorem SimS.bind {Pg P : Program} [Kin Pg P] {α β γ δ : Type} {Q : Ren → α → β → Prop} {Q' : Ren → γ → δ → Prop} {ρ : Ren} {s : Sem α} {s' : Sem β} {f : α → Sem γ} {f' : β → Sem δ} (h : SimS Pg P Q ρ s s') (hf : ∀ ρ' a b, ρ.le ρ' → Q ρ' a b → SimS Pg P Q' ρ' (f a) (f' b)) : SimS Pg P Q' ρ (s.bind f) (s'.bind f') := by
  induction h with
  | dead h =>
    refine .dead ⟨fun w c w1 hc => ?_, fun w x w1 hc => ?_⟩
    · obtain ⟨a, w0, ha⟩ := run_bind_ok hc
      exact h.1 w a w0 ha
    · rcases run_bind_halt hc with hx | ⟨a, w0, ha, _⟩
      · exact h.2 w x w1 hx
      · exact absurd ha (h.1 w a w0)
  | pure h => exact hf _ _ _ (.refl _) h
  | load ha _ ih => exact .load ha fun v v' hv => ih v v' hv hf
  | store ha hv _ ih => exact .store ha hv (ih hf)
  | new ho _ ih => exact .new ho fun ρ' r r' hle hr hG h0 => ih ρ' r r' hle hr hG h0 fun ρ2 a b h2 => hf ρ2 a b (hle.trans h2)
  | shape hr _ ih => exact .shape hr fun s s' hs => ih s s' hs hf
  | getObj hr _ ih => exact .getObj hr fun a a' l h => ih a a' l h hf
  | choose q _ ih => exact .choose q fun n => ih n hf
  | program _ ih => exact .program (ih hf)
  | room _ ih => exact .room (ih hf)
end Go.Proofs.YtnpffnhiefgglaaGreatDoor
