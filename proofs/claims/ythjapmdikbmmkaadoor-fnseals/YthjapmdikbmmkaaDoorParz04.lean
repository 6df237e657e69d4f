/-
  A part of the proof.
-/
import Derived.Test.YthjapmdikbmmkaaDoorParz03
namespace Go.Proofs.YthjapmdikbmmkaaDoor
open Go
set_option maxRecDepth 100000
/-! ### what hangs on the tables alone -/
theorem kin_cells (T : Tables) (f f' : Array Func) (e : TypeId) : Program.cellsOf ⟨T, f⟩ e = Program.cellsOf ⟨T, f'⟩ e := rfl
theorem kin_bytes (T : Tables) (f f' : Array Func) (e : TypeId) : Program.bytesOf ⟨T, f⟩ e = Program.bytesOf ⟨T, f'⟩ e := rfl
theorem kin_depth (T : Tables) (f f' : Array Func) : Program.depth ⟨T, f⟩ = Program.depth ⟨T, f'⟩ := rfl
theorem kin_byteOfCell (T : Tables) (f f' : Array Func) (d : Nat) : byteOfCell ⟨T, f⟩ d = byteOfCell ⟨T, f'⟩ d := by
  induction d with
  | zero => rfl
  | succ d ih =>
    funext t off
    unfold byteOfCell
    rw [ih]
    rfl
theorem kin_cellOfByte (T : Tables) (f f' : Array Func) (d : Nat) : cellOfByte ⟨T, f⟩ d = cellOfByte ⟨T, f'⟩ d := by
  induction d with
  | zero => rfl
  | succ d ih =>
    funext t off
    unfold cellOfByte
    rw [ih]
    rfl
theorem kin_cellAtBytes (T : Tables) (f f' : Array Func) (d : Nat) : cellAtBytes ⟨T, f⟩ d = cellAtBytes ⟨T, f'⟩ d := by
  funext e count off bytes
  unfold cellAtBytes
  rw [kin_byteOfCell T f f', kin_cellOfByte T f f']
  rfl
section
variable {Pg P : Program} [Kin Pg P] {ρ : Ren}
/-! ### addresses as numbers (nobody here does so; but who adds could) -/
theorem sim_shape {r r' : Nat} (h : ρ r r') : SimS Pg P (fun ρ' s s' => ρ.le ρ' ∧ ShapeR ρ (ρ.lo r) s s') ρ (shape r) (shape r') := .shape h fun _ _ hs => .pure ⟨.refl _, hs⟩
theorem sim_viewAt {r r' : Nat} (h : ρ r r') : SimS Pg P (fun _ a b => a = none ∧ b = none) ρ (viewAt r) (viewAt r') := by
  refine (sim_shape h).bd fun ρ1 s s' hle hs => ?_
  rcases hs.2 with ⟨_, rfl⟩ | ⟨hl, m, e', m', rfl, rfl⟩
  case inr => exact .pr ⟨rfl, rfl⟩
  cases s with
  | some x => exact .pr ⟨rfl, rfl⟩
  | none => exact .getObj (hle.app h) fun a a' l _ => .pure ⟨rfl, rfl⟩
theorem sim_numberAt {r r' : Nat} (h : ρ r r') : SimS Pg P (fun ρ a b => (a = none ∧ b = none) ∨ ∃ x x' l, a = some (x, l) ∧ b = some (x', l) ∧ RelA ρ x x') ρ (numberAt r) (numberAt r') := by
  refine (sim_shape h).bd fun ρ1 s s' hle hs => ?_
  rcases hs.2 with ⟨_, rfl⟩ | ⟨hl, m, e', m', rfl, rfl⟩
  case inr => exact .pr (.inl ⟨rfl, rfl⟩)
  cases s with
  | some x => exact .pr (.inl ⟨rfl, rfl⟩)
  | none => exact .getObj (hle.app h) fun a a' l ha => .pure (.inr ⟨a, a', l, rfl, rfl, ha⟩)
theorem sim_behindNumber {a a' : Addr} (h : RelA ρ a a') : SimS Pg P (fun ρ x y => RelA ρ x.1 y.1 ∧ x.2 = y.2) ρ (behindNumber a) (behindNumber a') := by
  refine (sim_numberAt h.1).bd fun ρ1 s s' hle hs => ?_
  rcases hs with ⟨rfl, rfl⟩ | ⟨x, x', l, rfl, rfl, hx⟩
  · exact .pr ⟨h.mono hle, rfl⟩
  · exact .pr ⟨hx, rfl⟩
theorem dead_noType {t : TypeId} (h : P.info? t = none) : Dead Pg (typeInfo t) := by
  have e : ∀ w, (typeInfo t).run Pg w = .halt (.stuck "no such type") w := fun w => by
    show (match Pg.info? t with | some i => (Pure.pure i : Sem TypeInfo) | none => stuck "no such type").run Pg w = _
    rw [kin_info (P := P), h]
    rfl
  exact ⟨fun w a w1 hx => (by rw [e] at hx; cases hx), fun w x w1 hx => (by rw [e] at hx; cases hx; rfl)⟩
theorem dead_bind2 {α : Type} {f : Program → Sem α} (e : ∀ w, ((program : Sem Program) >>= f).run Pg w = (f Pg).run Pg w) (h : Dead Pg (f Pg)) : Dead Pg ((program : Sem Program) >>= f) := ⟨fun w a w1 hx => h.1 w a w1 ((e w).symm.trans hx), fun w x w1 hx => h.2 w x w1 ((e w).symm.trans hx)⟩
theorem sim_asNumber {a a' : Addr} (h : RelA ρ a a') (l : Bool) : SimS Pg P RelV ρ (asNumber a l) (asNumber a' l) := .new (.number l rfl h) fun _ _ _ _ hr hG h0 => .pure (.ptr ⟨hr, rfl, rfl, fun (k : _ < _) => absurd k (Nat.not_lt.2 hG), by simp only [h0]; omega⟩)
theorem sim_noView {a a' : Addr} (h : RelA ρ a a') : SimS Pg P Same ρ (noView a) (noView a') := (sim_viewAt h.1).bd fun _ _ _ _ hs => by
  obtain ⟨rfl, rfl⟩ := hs
  exact .pr rfl
theorem sim_byteOf {a a' : Addr} (h : RelA ρ a a') (h0 : ρ.lo a.block = 0) : SimS Pg P Same ρ (byteOf a) (byteOf a') := by
  obtain ⟨b, o, s⟩ := a
  obtain ⟨b', o', s'⟩ := a'
  have h' := h
  obtain ⟨hb, rfl, rfl, _⟩ := h'
  unfold byteOf
  cases s' with
  | some x => exact .pr rfl
  | none =>
    refine sim_program.bd fun ρ1 p p' hle hp => ?_
    obtain ⟨pt, pf⟩ := p
    obtain ⟨pt', pf'⟩ := p'
    obtain rfl : pt = pt' := hp
    refine (sim_noView (h.mono hle)).bd fun ρ2 _ _ hle2 _ => ?_
    refine (sim_shape (hle2.app (hle.app hb))).bd fun ρ3 s s' _ hs => ?_
    have h02 : ρ2.lo b = 0 := by rw [hle2.lo, hle.lo]; exact h0
    rcases hs.2 with ⟨_, rfl⟩ | ⟨hl, m, e', m', rfl, rfl⟩
    case inr => exact absurd h02 hl
    cases s with
    | none => exact .dd (dead_stuck _)
    | some x =>
      obtain ⟨e, n⟩ := x
      dsimp only
      simp only [kin_cells pt pf' pf, kin_bytes pt pf' pf, kin_depth pt pf' pf, kin_byteOfCell pt pf' pf]
      split
      · exact .pr rfl
      · split
        · exact .pr rfl
        · exact .dd (dead_stuck _)
theorem sim_unsafeAdd (hG : Fits P ρ) {x x' y y' : Value} (hx : RelV ρ x x') (hy : RelV ρ y y') (t : TypeId) : SimS Pg P RelV ρ (Builtin.unsafeAdd_ #[] t #[x, y]) (Builtin.unsafeAdd_ #[] t #[x', y']) := by
  unfold Builtin.unsafeAdd_
  cases hx with
  | ptrNil =>
    refine (sim_asInt hy).bd fun ρ1 n n' hle hn => ?_
    obtain rfl : n = n' := hn
    dsimp only
    split
    · exact .dd (dead_unsupported _)
    · split
      · exact .dd (dead_left (dead_unsupported _))
      · exact .dd (dead_unsupported _)
  | @ptr a a' h =>
    refine (sim_asInt hy).bd fun ρ1 n n' hle hn => ?_
    obtain rfl : n = n' := hn
    dsimp only
    split
    · refine (sim_viewAt (hle.app h.1)).bd fun ρ2 s s' hle2 hs => ?_
      obtain ⟨rfl, rfl⟩ := hs
      exact .pr (.ptr ((h.mono hle).mono hle2))
    · split
      · exact .dd (dead_left (dead_unsupported _))
      · refine (sim_shape (hle.app h.1)).bd fun ρ2 s s' hle2 hs => ?_
        rcases hs.2 with ⟨h0, rfl⟩ | ⟨hl, m, e', m', rfl, rfl⟩
        case inr =>
          refine .dd (dead_bind2 (fun w => rfl) ?_)
          have hb : Pg.cellsOf ρ1.Bg = 0 := by
            unfold Program.cellsOf
            rw [kin_info (P := P), (hG.mono hle).bog]
            rfl
          have hn : cellAtBytes Pg Pg.depth ρ1.Bg (m / Pg.cellsOf ρ1.Bg) a.off n = none := by
            unfold cellAtBytes
            simp [hb]
          rw [hn]
          exact dead_unsupported _
        cases s with
        | none => exact .dd (dead_unsupported _)
        | some e =>
          obtain ⟨e, cells⟩ := e
          refine sim_program.bd fun ρ3 p p' hle3 hp => ?_
          obtain ⟨pt, pf⟩ := p
          obtain ⟨pt', pf'⟩ := p'
          obtain rfl : pt = pt' := hp
          simp only [kin_cells pt pf' pf, kin_depth pt pf' pf, kin_cellAtBytes pt pf' pf]
          rw [h.2.1]
          split
          · exact .pr (.ptr (((h.mono hle).mono hle2).mono hle3 |> fun k => ⟨k.1, rfl, k.2.2.1, k.2.2.2.1, by rw [hle3.lo, hle2.lo, h0]; omega⟩))
          · exact .dd (dead_unsupported _)
  | _ => exact .dd (dead_stuck _)
theorem sim_movedNumber (hG : Fits P ρ) {x x' y y' : Value} (hx : RelV ρ x x') (hy : RelV ρ y y') (t : TypeId) : SimS Pg P RelV ρ (movedNumber t x y) (movedNumber t x' y') := by
  unfold movedNumber
  refine (sim_underlying t).bd fun ρ1 d d' hle hd => ?_
  obtain rfl : d = d' := hd
  replace hx := hx.mono hle
  replace hy := hy.mono hle
  dsimp only
  split
  · exact .dd (dead_left (dead_unsupported _))
  · cases hx with
    | @ptr a a' h =>
      refine (sim_behindNumber h).bd fun ρ2 n n' hle2 hn => ?_
      obtain ⟨n1, n2⟩ := n
      obtain ⟨m1, m2⟩ := n'
      obtain ⟨hn1, hn2⟩ := hn
      simp only at hn1 hn2
      subst hn2
      refine (sim_unsafeAdd (hG.mono (hle.trans hle2)) (.ptr hn1) (hy.mono hle2) t).bd fun ρ3 v v' hle3 hv => ?_
      cases hv with
      | ptr k => exact sim_asNumber k _
      | ptrNil => exact .pr .ptrNil
      | bool b => exact .pr (.bool b)
      | int k n => exact .pr (.int k n)
      | string s => exact .pr (.string s)
      | sliceNil => exact .pr .sliceNil
      | slice n c h => exact .pr (.slice n c h)
      | mapNil => exact .pr .mapNil
      | chanNil => exact .pr .chanNil
      | func f hA hx h1 hy h2 => exact .pr (.func f hA hx h1 hy h2)
      | nilFunc => exact .pr .nilFunc
      | iface t h => exact .pr (.iface t h)
      | nilIface => exact .pr .nilIface
      | agg hx h => exact .pr (.agg hx h)
      | tuple hx h => exact .pr (.tuple hx h)
    | ptrNil => exact sim_unsafeAdd (hG.mono hle) .ptrNil hy t
    | bool b => exact sim_unsafeAdd (hG.mono hle) (.bool b) hy t
    | int k n => exact sim_unsafeAdd (hG.mono hle) (.int k n) hy t
    | string s => exact sim_unsafeAdd (hG.mono hle) (.string s) hy t
    | sliceNil => exact sim_unsafeAdd (hG.mono hle) .sliceNil hy t
    | slice n c h => exact sim_unsafeAdd (hG.mono hle) (.slice n c h) hy t
    | mapNil => exact sim_unsafeAdd (hG.mono hle) .mapNil hy t
    | chanNil => exact sim_unsafeAdd (hG.mono hle) .chanNil hy t
    | func f hA hx h1 hy' h2 => exact sim_unsafeAdd (hG.mono hle) (.func f hA hx h1 hy' h2) hy t
    | nilFunc => exact sim_unsafeAdd (hG.mono hle) .nilFunc hy t
    | iface t' h => exact sim_unsafeAdd (hG.mono hle) (.iface t' h) hy t
    | nilIface => exact sim_unsafeAdd (hG.mono hle) .nilIface hy t
    | agg hx h => exact sim_unsafeAdd (hG.mono hle) (.agg hx h) hy t
    | tuple hx h => exact sim_unsafeAdd (hG.mono hle) (.tuple hx h) hy t
theorem sim_movedPointer (hG : Fits P ρ) {x x' y y' : Value} (hx : RelV ρ x x') (hy : RelV ρ y y') (t : TypeId) : SimS Pg P RelV ρ (movedPointer t x y) (movedPointer t x' y') := by
  have k : ∀ {ρ1 : Ren}, ρ.le ρ1 → SimS Pg P RelV ρ1 (Builtin.unsafeAdd_ #[] t #[x, y]) (Builtin.unsafeAdd_ #[] t #[x', y']) := fun hle => sim_unsafeAdd (hG.mono hle) (hx.mono hle) (hy.mono hle) t
  unfold movedPointer
  cases hx with
  | @ptr a a' h =>
    refine (sim_numberAt h.1).bd fun ρ1 s s' hle hs => ?_
    rcases hs with ⟨rfl, rfl⟩ | ⟨x, x', l, rfl, rfl, hx⟩
    · exact k hle
    · exact .dd (dead_left (dead_unsupported _))
  | _ => exact k (.refl _)
theorem sim_twoPlaces (hG : Fits P ρ) {a a' b b' : Addr} (h : RelA ρ a a') (k : RelA ρ b b') : SimS Pg P Same ρ (Op.twoPlaces a b) (Op.twoPlaces a' b') := by
  unfold Op.twoPlaces
  refine SimS.bind (Q := fun _ p q => p.globals.size = P.globals.size ∧ q = P) (.program (.pure ⟨by rw [‹Kin Pg P›.tables], rfl⟩)) fun ρ1 p p' hle hp => ?_
  obtain ⟨h1, h2⟩ := hp
  rw [h1, h2]
  by_cases hc : (a.block != b.block || decide (a.block ≥ P.globals.size)) = true
  · rw [if_pos hc]
    exact .dd (dead_left (dead_unsupported _))
  · rw [if_neg hc]
    simp only [Bool.or_eq_true, bne_iff_ne, ne_eq, decide_eq_true_eq, not_or, Decidable.not_not, Nat.not_le] at hc
    have e1 := h.2.2.2.1 (by rw [hG.size]; exact hc.2)
    have e2 := k.2.2.2.1 (by rw [hG.size, ← hc.1]; exact hc.2)
    have l1 : ρ.lo a.block = 0 := ρ.glo _ (by rw [hG.size]; exact hc.2)
    have l2 : ρ.lo b.block = 0 := ρ.glo _ (by rw [hG.size, ← hc.1]; exact hc.2)
    rw [if_neg (by simp only [Bool.or_eq_true, bne_iff_ne, ne_eq, decide_eq_true_eq, not_or, Decidable.not_not, Nat.not_le, e1, e2]; exact hc)]
    refine (sim_byteOf (h.mono hle) (by rw [hle.lo]; exact l1)).bd fun ρ2 x x' hle2 hx => ?_
    obtain rfl : x = x' := hx
    refine (sim_byteOf ((k.mono hle).mono hle2) (by rw [hle2.lo, hle.lo]; exact l2)).bd fun ρ3 y y' _ hy => ?_
    obtain rfl : y = y' := hy
    exact .pr rfl
theorem sim_addrSub (hG : Fits P ρ) (kd : IntKind) {a a' b b' : Addr} (h : RelA ρ a a') (k : RelA ρ b b') : SimS Pg P RelV ρ (Op.addrSub kd a b) (Op.addrSub kd a' b') := (sim_twoPlaces hG h k).bd fun ρ1 x x' _ hx => by
  obtain rfl : x = x' := hx
  exact .pr (.int _ _)
theorem sim_addrCmp (hG : Fits P ρ) (op : BinOp) {a a' b b' : Addr} (h : RelA ρ a a') (k : RelA ρ b b') : SimS Pg P RelV ρ (Op.addrCmp op a b) (Op.addrCmp op a' b') := (sim_twoPlaces hG h k).bd fun ρ1 x x' _ hx => by
  obtain rfl : x = x' := hx
  cases op <;> first | exact .pr (.bool _) | exact .dd (dead_unsupported _)
theorem sim_addrMod (hG : Fits P ρ) (kd : IntKind) (n : Int) {a a' : Addr} (h : RelA ρ a a') : SimS Pg P RelV ρ (Op.addrMod kd a n) (Op.addrMod kd a' n) := by
  unfold Op.addrMod
  refine (sim_shape h.1).bd fun ρ1 s s' hle hs => ?_
  rcases hs.2 with ⟨h0, rfl⟩ | ⟨hl, m, e', m', rfl, rfl⟩
  case inr => exact .dd (dead_left (dead_noType hG.bog))
  cases s with
  | none => exact .dd (dead_unsupported _)
  | some x =>
    obtain ⟨e, m⟩ := x
    refine (sim_typeInfo e).bd fun ρ2 i i' hle2 hi => ?_
    obtain ⟨rfl, _⟩ := hi
    dsimp only
    split
    · exact .dd (dead_left (dead_unsupported _))
    · refine (sim_byteOf ((h.mono hle).mono hle2) (by rw [hle2.lo, hle.lo]; exact h0)).bd fun ρ3 y y' _ hy => ?_
      obtain rfl : y = y' := hy
      exact .pr (.int _ _)
/-! ### operators -/
theorem sim_intArith (op : BinOp) (k : IntKind) (x y : Int) : SimS Pg P RelV ρ (Op.intArith op k x y) (Op.intArith op k x y) := by
  cases op <;> first | exact .pr (.int _ _) | exact .dd (dead_stuck _)
theorem sim_intDiv (op : BinOp) (k : IntKind) (x y : Int) : SimS Pg P RelV ρ (Op.intDiv op k x y) (Op.intDiv op k x y) := by
  unfold Op.intDiv
  split
  · exact .dd (dead_runtimePanic _)
  · cases op <;> first | exact .pr (.int _ _) | exact .dd (dead_stuck _)
theorem sim_intBits (op : BinOp) (k : IntKind) (x y : Int) : SimS Pg P RelV ρ (Op.intBits op k x y) (Op.intBits op k x y) := by
  cases op <;> first | exact .pr (.int _ _) | exact .dd (dead_stuck _)
theorem sim_intCmp (op : BinOp) (x y : Int) : SimS Pg P RelV ρ (Op.intCmp op x y) (Op.intCmp op x y) := by
  cases op <;> first | exact .pr (.bool _) | exact .dd (dead_stuck _)
theorem sim_shift (op : BinOp) (k k' : IntKind) (x y : Int) : SimS Pg P RelV ρ (Op.shift op k x k' y) (Op.shift op k x k' y) := by
  unfold Op.shift
  split
  · exact .dd (dead_runtimePanic _)
  · cases op <;> first | exact .pr (.int _ _) | exact .dd (dead_stuck _)
theorem sim_stringOp (op : BinOp) (x y : ByteArray) : SimS Pg P RelV ρ (Op.stringOp op x y) (Op.stringOp op x y) := by
  unfold Op.stringOp
  cases op <;> dsimp only <;> first
    | exact .pr (.bool _)
    | exact .dd (dead_stuck _)
    | (split
       · exact .dd (dead_unsupported _)
       · exact .pr (.string _))
theorem binOp_string (op : BinOp) (t : TypeId) (a b : ByteArray) : binOp op t (.string a) (.string b) = Op.stringOp op a b := by cases op <;> rfl
theorem binOp_shl (t : TypeId) (k k' : IntKind) (a b : Int) : binOp .shl t (.int k a) (.int k' b) = Op.shift .shl k a k' b := rfl
theorem binOp_shr (t : TypeId) (k k' : IntKind) (a b : Int) : binOp .shr t (.int k a) (.int k' b) = Op.shift .shr k a k' b := rfl
set_option maxHeartbeats 4000000 in
theorem sim_binOp (hG : Fits P ρ) (op : BinOp) (hop : op ≠ .eql ∧ op ≠ .neq) (t : TypeId) {x x' y y' : Value} (hx : RelV ρ x x') (hy : RelV ρ y y') : SimS Pg P RelV ρ (binOp op t x y) (binOp op t x' y') := by
  have hGl : ∀ {ρ' : Ren}, ρ.le ρ' → Fits P ρ' := fun hle => hG.mono hle
  cases hx with
  | int k a =>
    cases hy with
    | int k' b =>
      cases op
      all_goals first
        | (rw [binOp_shl]; exact sim_shift _ k k' a b)
        | (rw [binOp_shr]; exact sim_shift _ k k' a b)
        | (show SimS Pg P RelV ρ (if k ≠ k' then _ else _) (if k ≠ k' then _ else _)
           split
           · exact .dd (dead_stuck _)
           · first | exact sim_intArith _ k a b | exact sim_intDiv _ k a b | exact sim_intBits _ k a b | exact sim_intCmp _ a b)
    | @ptr b b' h =>
      cases op
      all_goals first
        | exact absurd rfl hop.1
        | exact absurd rfl hop.2
        | exact .dd (dead_stuck _)
        | exact .dd (dead_unsupported _)
        | exact sim_movedNumber hG (.ptr h) (.int k a) t
        | exact (sim_behindNumber h).bd fun ρ' x x' hle hx => sim_addrMod (hG.mono hle) k (a + 1) hx.1
    | ptrNil =>
      cases op
      all_goals first
        | exact absurd rfl hop.1
        | exact absurd rfl hop.2
        | exact .dd (dead_stuck _)
        | exact .dd (dead_unsupported _)
        | exact sim_movedNumber hG .ptrNil (.int k a) t
    | _ =>
      cases op
      all_goals first
        | exact absurd rfl hop.1
        | exact absurd rfl hop.2
        | exact .dd (dead_stuck _)
        | exact .dd (dead_unsupported _)
  | string a =>
    cases hy with
    | string b =>
      rw [binOp_string]
      exact sim_stringOp op a b
    | _ =>
      cases op
      all_goals first
        | exact absurd rfl hop.1
        | exact absurd rfl hop.2
        | exact .dd (dead_stuck _)
        | exact .dd (dead_unsupported _)
  | @ptr a a' h =>
    cases hy with
    | int k n =>
      cases op
      all_goals first
        | exact absurd rfl hop.1
        | exact absurd rfl hop.2
        | exact .dd (dead_stuck _)
        | exact .dd (dead_unsupported _)
        | exact sim_movedNumber hG (.ptr h) (.int k (-n)) t
        | exact (sim_behindNumber h).bd fun ρ' x x' hle hx => sim_addrMod (hG.mono hle) k n hx.1
        | exact (sim_behindNumber h).bd fun ρ' x x' hle hx => sim_addrMod (hG.mono hle) k (n + 1) hx.1
        | (refine (sim_underlying t).bd fun ρ' d d' hle hd => ?_
           obtain rfl : d = d' := hd
           split
           · exact sim_movedPointer (hG.mono hle) ((RelV.ptr h).mono hle) (.int k n) t
           · exact sim_movedNumber (hG.mono hle) ((RelV.ptr h).mono hle) (.int k n) t)
    | @ptr b b' h' =>
      cases op
      all_goals first
        | exact absurd rfl hop.1
        | exact absurd rfl hop.2
        | exact .dd (dead_stuck _)
        | exact .dd (dead_unsupported _)
        | exact (sim_behindNumber h).bd fun ρ' x x' hle hx => (sim_behindNumber (h'.mono hle)).bd fun ρ2 z z' hle2 hz => sim_addrSub (hGl (hle.trans hle2)) .u64 (hx.1.mono hle2) hz.1
        | exact (sim_behindNumber h).bd fun ρ' x x' hle hx => (sim_behindNumber (h'.mono hle)).bd fun ρ2 z z' hle2 hz => sim_addrCmp (hGl (hle.trans hle2)) _ (hx.1.mono hle2) hz.1
    | _ =>
      cases op
      all_goals first
        | exact absurd rfl hop.1
        | exact absurd rfl hop.2
        | exact .dd (dead_stuck _)
        | exact .dd (dead_unsupported _)
  | ptrNil =>
    cases hy with
    | int k n =>
      cases op
      all_goals first
        | exact absurd rfl hop.1
        | exact absurd rfl hop.2
        | exact .dd (dead_stuck _)
        | exact .dd (dead_unsupported _)
        | exact sim_movedNumber hG .ptrNil (.int k (-n)) t
        | (refine (sim_underlying t).bd fun ρ' d d' hle hd => ?_
           obtain rfl : d = d' := hd
           split
           · exact sim_movedPointer (hG.mono hle) .ptrNil (.int k n) t
           · exact sim_movedNumber (hG.mono hle) .ptrNil (.int k n) t)
    | _ =>
      cases op
      all_goals first
        | exact absurd rfl hop.1
        | exact absurd rfl hop.2
        | exact .dd (dead_stuck _)
        | exact .dd (dead_unsupported _)
  | _ =>
    cases hy <;> cases op
    all_goals first
      | exact absurd rfl hop.1
      | exact absurd rfl hop.2
      | exact .dd (dead_stuck _)
      | exact .dd (dead_unsupported _)
end
section
variable {Pg P : Program} [Kin Pg P] {ρ : Ren}
def idxEnd (t : TypeId) (k : IntKind) (i : Int) (base : Option Addr) (len : Nat) (elem : TypeId) : Sem Value := do
  let tiny := len ≤ 1 && (match ← underlying t with | .array .. => true | _ => false)
  match base with
  | some a =>
    if 0 ≤ i ∧ i < len then pure (.pointer (some (a.add (i.toNat * (← sizeOf elem)))))
    else if tiny then unsupported (.noEntry "op/indexAddr.an index out of range at an array of length 0 or 1 (ledger 616)")
    else boundsPanic k i len .index
  | none => boundsPanic k i 0 .index
theorem sim_idxNone (t : TypeId) (k : IntKind) (i : Int) (len : Nat) (elem : TypeId) (s' : Sem Value) : SimS Pg P RelV ρ (idxEnd t k i none len elem) s' := .dd (dead_bind (tame_underlying _) fun _ => dead_boundsPanic _ _ _ _)
theorem sim_idxSome (t : TypeId) (k : IntKind) (i : Int) {u u' : Addr} (hu : RelA ρ u u') (len : Nat) (elem : TypeId) : SimS Pg P RelV ρ (idxEnd t k i (some u) len elem) (idxEnd t k i (some u') len elem) := by
  unfold idxEnd
  refine (sim_underlying t).bd fun ρ3 d d' hle3 hd => ?_
  obtain rfl : d = d' := hd
  dsimp only
  split
  · refine (sim_sizeOf elem).bd fun ρ4 s s' hle4 hs => ?_
    obtain rfl : s = s' := hs
    exact .pr (.ptr (((hu.mono hle3).mono hle4).add _))
  · refine .dd ?_
    split <;> split <;> first | exact dead_unsupported _ | exact dead_boundsPanic _ _ _ _
theorem sim_indexAt {t : TypeId} {x x' i i' : Value} (hx : RelV ρ x x') (hi : RelV ρ i i') : SimS Pg P RelV ρ (Instr.indexAt t x i) (Instr.indexAt t x' i') := by
  unfold Instr.indexAt
  refine (sim_asIntOf hi).bd fun ρ1 n n' hle hn => ?_
  obtain rfl : n = n' := hn
  obtain ⟨k, n⟩ := n
  refine (sim_underlying t).bd fun ρ2 d d' hle2 hd => ?_
  obtain rfl : d = d' := hd
  replace hx := (hx.mono hle).mono hle2
  cases d with
  | array len elem => exact (sim_sureAddr hx).bd fun ρ3 u u' _ hu => sim_idxSome t k n hu len elem
  | slice elem =>
    cases hx with
    | sliceNil => exact sim_idxNone t k n 0 elem _
    | slice len c h => exact sim_idxSome t k n h len elem
    | _ => exact .dd (dead_left (dead_stuck _))
  | _ => exact .dd (dead_left (dead_stuck _))
theorem sim_part {t : TypeId} {x x' : Array Value} (hx : RelR ρ x x') (off : Nat) : SimS Pg P RelV ρ (part t x off) (part t x' off) := by
  unfold part
  refine (sim_isAgg t).bd fun ρ1 b b' hle hb => ?_
  obtain rfl : b = b' := hb
  replace hx := hx.mono hle
  cases b
  · rcases hx.get off with ⟨h1, h2⟩ | ⟨v, v', h1, h2, hv⟩
    · simp only [h1, h2]
      exact .dd (dead_stuck _)
    · simp only [h1, h2]
      exact .pr hv
  · refine (sim_sizeOf t).bd fun ρ2 s s' hle2 hs => ?_
    obtain rfl : s = s' := hs
    exact .pr ((hx.mono hle2).extract _ _).agg
theorem sim_index {t : TypeId} {x x' i i' : Value} (hx : RelV ρ x x') (hi : RelV ρ i i') : SimS Pg P RelV ρ (Instr.index t x i) (Instr.index t x' i') := by
  unfold Instr.index
  refine (sim_asIntOf hi).bd fun ρ1 n n' hle hn => ?_
  obtain rfl : n = n' := hn
  obtain ⟨k, n⟩ := n
  refine (sim_underlying t).bd fun ρ2 d d' hle2 hd => ?_
  obtain rfl : d = d' := hd
  replace hx := (hx.mono hle).mono hle2
  cases hx with
  | @agg x x' hs h =>
    cases d
    all_goals first
      | exact .dd (dead_stuck _)
      | (dsimp only
         split
         · refine (sim_sizeOf _).bd fun ρ3 s s' hle3 hs' => ?_
           obtain rfl : s = s' := hs'
           exact sim_part ((show RelR _ x x' from ⟨hs, h⟩).mono hle3) _
         · exact .dd (dead_boundsPanic _ _ _ _))
  | string s =>
    cases d
    all_goals first
      | exact .dd (dead_stuck _)
      | (dsimp only
         split
         · exact .pr (.int _ _)
         · exact .dd (dead_boundsPanic _ _ _ _))
  | _ => cases d <;> exact .dd (dead_stuck _)
theorem sim_extract {x x' : Value} (hx : RelV ρ x x') (i : Nat) : SimS Pg P RelV ρ (Instr.extract x i) (Instr.extract x' i) := by
  unfold Instr.extract
  cases hx with
  | @tuple x x' hs h =>
    rcases (show RelR ρ x x' from ⟨hs, h⟩).get i with ⟨h1, h2⟩ | ⟨v, v', h1, h2, hv⟩
    · simp only [h1, h2]
      exact .dd (dead_stuck _)
    · simp only [h1, h2]
      exact .pr hv
  | _ => exact .dd (dead_stuck _)
theorem sim_sliceBound {v v' : Value} (h : RelV ρ v v') (y : Nat) (c : BoundsCode) : SimS Pg P (fun _ a b => a = b ∧ a ≤ y) ρ (Instr.sliceBound v y c) (Instr.sliceBound v' y c) := by
  unfold Instr.sliceBound
  refine (sim_asIntOf h).bd fun ρ1 n n' hle hn => ?_
  obtain rfl : n = n' := hn
  dsimp only
  split
  · rename_i hb
    exact .pr ⟨rfl, by omega⟩
  · exact .dd (dead_boundsPanic _ _ _ _)
def RelM (ρ : Ren) (a b : Option Value) : Prop := (a = none ∧ b = none) ∨ ∃ v v', a = some v ∧ b = some v' ∧ RelV ρ v v'
theorem RelM.mono {ρ ρ' : Ren} (hle : ρ.le ρ') {a b : Option Value} (h : RelM ρ a b) : RelM ρ' a b := h.imp id fun ⟨v, v', h1, h2, h3⟩ => ⟨v, v', h1, h2, h3.mono hle⟩
theorem sim_sliceBounds {lo lo' hi hi' mx mx' : Option Value} (h1 : RelM ρ lo lo') (h2 : RelM ρ hi hi') (h3 : RelM ρ mx mx') (sl : Bool) (n c : Nat) : SimS Pg P (fun _ a b => a = b ∧ a.2.2 ≤ c ∧ (a.2.1 ≤ a.2.2 ∨ a.2.1 = n)) ρ (Instr.sliceBounds sl n c lo hi mx) (Instr.sliceBounds sl n c lo' hi' mx') := by
  unfold Instr.sliceBounds
  have B : ∀ {ρ' : Ren} {v v' : Value}, RelV ρ v v' → ρ.le ρ' → ∀ y c, SimS Pg P (fun _ a b => a = b ∧ a ≤ y) ρ' (Instr.sliceBound v y c) (Instr.sliceBound v' y c) := fun h hle y c => sim_sliceBound (h.mono hle) y c
  rcases h3 with ⟨rfl, rfl⟩ | ⟨u, u', rfl, rfl, r3⟩
  · rcases h2 with ⟨rfl, rfl⟩ | ⟨v, v', rfl, rfl, r2⟩
    · rcases h1 with ⟨rfl, rfl⟩ | ⟨z, z', rfl, rfl, r1⟩
      · exact .pr ⟨rfl, Nat.le_refl _, .inr rfl⟩
      · refine (B r1 (.refl _) _ _).bd fun ρ1 m m' hle hm => ?_
        obtain ⟨rfl, _⟩ := hm
        exact .pr ⟨rfl, Nat.le_refl _, .inr rfl⟩
    · refine (B r2 (.refl _) _ _).bd fun ρ1 m m' hle hm => ?_
      obtain ⟨rfl, hm⟩ := hm
      rcases h1 with ⟨rfl, rfl⟩ | ⟨z, z', rfl, rfl, r1⟩
      · exact .pr ⟨rfl, Nat.le_refl _, .inl hm⟩
      · refine (B r1 hle _ _).bd fun ρ2 k k' hle2 hk => ?_
        obtain ⟨rfl, _⟩ := hk
        exact .pr ⟨rfl, Nat.le_refl _, .inl hm⟩
  · refine (B r3 (.refl _) _ _).bd fun ρ0 q q' hle0 hq => ?_
    obtain ⟨rfl, hq⟩ := hq
    rcases h2 with ⟨rfl, rfl⟩ | ⟨v, v', rfl, rfl, r2⟩
    · exact .dd (dead_left (dead_stuck _))
    · refine (B r2 hle0 _ _).bd fun ρ1 m m' hle hm => ?_
      obtain ⟨rfl, hm⟩ := hm
      rcases h1 with ⟨rfl, rfl⟩ | ⟨z, z', rfl, rfl, r1⟩
      · exact .pr ⟨rfl, hq, .inl hm⟩
      · refine (B r1 (hle0.trans hle) _ _).bd fun ρ2 k k' hle2 hk => ?_
        obtain ⟨rfl, _⟩ := hk
        exact .pr ⟨rfl, hq, .inl hm⟩
theorem sim_slice {t : TypeId} {x x' : Value} {lo lo' hi hi' mx mx' : Option Value} (hx : RelV ρ x x') (h1 : RelM ρ lo lo') (h2 : RelM ρ hi hi') (h3 : RelM ρ mx mx') : SimS Pg P RelV ρ (Instr.slice t x lo hi mx) (Instr.slice t x' lo' hi' mx') := by
  unfold Instr.slice
  refine (sim_underlying t).bd fun ρ1 d d' hle hd => ?_
  obtain rfl : d = d' := hd
  replace hx := hx.mono hle
  replace h1 := h1.mono hle
  replace h2 := h2.mono hle
  replace h3 := h3.mono hle
  have arr : ∀ {a a' : Addr} (arr : TypeId), RelA ρ1 a a' → SimS Pg P RelV ρ1 (do
      let .array n elem ← underlying arr | stuck "Slice: array type expected"
      let (l, h, m) ← Instr.sliceBounds false n n lo hi mx
      let size ← sizeOf elem
      pure (.slice (some (if m = l then a else a.add (l * size))) (h - l) (m - l))) (do
      let .array n elem ← underlying arr | stuck "Slice: array type expected"
      let (l, h, m) ← Instr.sliceBounds false n n lo' hi' mx'
      let size ← sizeOf elem
      pure (.slice (some (if m = l then a' else a'.add (l * size))) (h - l) (m - l))) := by
    intro a a' arr h
    refine (sim_underlying arr).bd fun ρ2 d d' hle2 hd => ?_
    obtain rfl : d = d' := hd
    cases d
    all_goals first
      | exact .dd (dead_stuck _)
      | (refine (sim_sliceBounds (h1.mono hle2) (h2.mono hle2) (h3.mono hle2) _ _ _).bd fun ρ3 q q' hle3 hq => ?_
         obtain ⟨rfl, _⟩ := hq
         refine (sim_sizeOf _).bd fun ρ4 s s' hle4 hs => ?_
         obtain rfl : s = s' := hs
         refine .pr (.slice _ _ ?_)
         split
         · exact ((h.mono hle2).mono hle3).mono hle4
         · exact (((h.mono hle2).mono hle3).mono hle4).add _)
  cases hx with
  | string s =>
    cases d
    all_goals first
      | exact .dd (dead_stuck _)
      | exact .dd (dead_left (dead_stuck _))
      | (rcases h3 with ⟨rfl, rfl⟩ | ⟨u, u', rfl, rfl, _⟩
         · refine (sim_sliceBounds h1 h2 (.inl ⟨rfl, rfl⟩) _ _ _).bd fun ρ3 q q' hle3 hq => ?_
           obtain ⟨rfl, _⟩ := hq
           exact .pr (.string _)
         · exact .dd (dead_left (dead_stuck _)))
  | sliceNil =>
    cases d
    all_goals first
      | exact .dd (dead_stuck _)
      | exact .dd (dead_left (dead_stuck _))
      | (refine (sim_sliceBounds h1 h2 h3 _ _ _).bd fun ρ3 q q' hle3 hq => ?_
         obtain ⟨rfl, hq1, hq2⟩ := hq
         refine (sim_sizeOf _).bd fun ρ4 s s' hle4 hs => ?_
         obtain rfl : s = s' := hs
         obtain ⟨l, h, m⟩ := q
         simp only at hq1 hq2
         have e1 : h - l = 0 := by omega
         have e2 : m - l = 0 := by omega
         refine .pr ?_
         dsimp only
         rw [e1, e2]
         split
         · exact .sliceNil
         · exact .sliceNil)
  | slice n c h =>
    cases d
    all_goals first
      | exact .dd (dead_stuck _)
      | exact .dd (dead_left (dead_stuck _))
      | (refine (sim_sliceBounds h1 h2 h3 _ _ _).bd fun ρ3 q q' hle3 hq => ?_
         obtain ⟨rfl, _⟩ := hq
         refine (sim_sizeOf _).bd fun ρ4 s s' hle4 hs => ?_
         obtain rfl : s = s' := hs
         refine .pr ?_
         split
         · exact .slice _ _ ((h.mono hle3).mono hle4)
         · exact .slice _ _ (((h.mono hle3).mono hle4).add _))
  | ptr h =>
    cases d
    all_goals first
      | exact .dd (dead_stuck _)
      | exact arr _ h
  | ptrNil =>
    cases d
    all_goals first
      | exact .dd (dead_stuck _)
      | exact .dd (dead_left (show Dead Pg (runtimePanic .nilDeref : Sem Addr) from dead_runtimePanic _))
  | _ =>
    cases d
    all_goals first
      | exact .dd (dead_stuck _)
      | exact .dd (dead_left (dead_stuck _))
theorem sim_sliceAt {t : TypeId} {x x' : Value} {lo lo' hi hi' mx mx' : Option Value} (hx : RelV ρ x x') (h1 : RelM ρ lo lo') (h2 : RelM ρ hi hi') (h3 : RelM ρ mx mx') : SimS Pg P RelV ρ (Instr.sliceAt t x lo hi mx) (Instr.sliceAt t x' lo' hi' mx') := by
  unfold Instr.sliceAt
  refine (sim_underlying t).bd fun ρ1 d d' hle hd => ?_
  obtain rfl : d = d' := hd
  replace hx := hx.mono hle
  replace h1 := h1.mono hle
  replace h2 := h2.mono hle
  replace h3 := h3.mono hle
  cases d
  all_goals first
    | exact sim_slice hx h1 h2 h3
    | (refine (sim_sureAddr hx).bd fun ρ2 a a' hle2 ha => ?_
       refine (sim_sliceBounds (h1.mono hle2) (h2.mono hle2) (h3.mono hle2) _ _ _).bd fun ρ3 q q' hle3 hq => ?_
       obtain ⟨rfl, _⟩ := hq
       refine (sim_sizeOf _).bd fun ρ4 s s' hle4 hs => ?_
       obtain rfl : s = s' := hs
       refine .pr (.slice _ _ ?_)
       split
       · exact (ha.mono hle3).mono hle4
       · exact ((ha.mono hle3).mono hle4).add _)
end
section
variable {Pg P : Program} [Kin Pg P] {ρ : Ren}
theorem RelR.list {x x' : Array Value} (h : RelR ρ x x') : RelR ρ x.toList.toArray x'.toList.toArray := by simpa using h
theorem sim_askRoom (n : Nat) : SimS Pg P Same ρ (askRoom n) (askRoom n) := by
  unfold askRoom
  split
  · exact .room (.pure rfl)
  · exact .pr rfl
theorem RelR.fill {z z' : Array Value} (h : RelR ρ z z') (n : Nat) : RelR ρ ((Array.range n).map (z[· % z.size]!)) ((Array.range n).map (z'[· % z'.size]!)) := by
  refine ⟨by simp, fun i v v' h1 h2 => ?_⟩
  simp only [Array.getElem?_map, Array.getElem?_range] at h1 h2
  split at h1
  · rename_i hi
    rw [if_pos hi] at h2
    simp only [Option.map_some, Option.some.injEq] at h1 h2
    rw [← h.1] at h2
    subst h1 h2
    rcases h.get (i % z.size) with ⟨k1, k2⟩ | ⟨u, u', k1, k2, hu⟩
    · simp only [getElem!_def, k1, k2]
      exact .bool _
    · simp only [getElem!_def, k1, k2]
      exact hu
  · cases h1
theorem sim_underlyingP (t : TypeId) : SimS Pg P (fun _ a b => a = b ∧ P.underlying t = some a) ρ (underlying t) (underlying t) := by
  refine .program ?_
  show SimS Pg P _ ρ (match Pg.underlying t with | some i => Pure.pure i | none => stuck "no such type") (match P.underlying t with | some i => Pure.pure i | none => stuck "no such type")
  rw [kin_underlying (Pg := Pg) (P := P) t]
  cases h : P.underlying t with
  | none => exact .dd (dead_stuck _)
  | some i => exact .pr ⟨rfl, rfl⟩
theorem sim_makeSlice {t : TypeId} {l l' c c' : Value} (hE : okElem P t = true) (hl : RelV ρ l l') (hc : RelV ρ c c') : SimS Pg P RelV ρ (Instr.makeSlice t l c) (Instr.makeSlice t l' c') := by
  unfold Instr.makeSlice
  refine (sim_underlyingP t).bd fun ρ1 d d' hle hd => ?_
  obtain ⟨rfl, hd⟩ := hd
  cases d with
  | slice elem =>
    have hz0 : okZero P elem = true := by simpa [okElem, hd] using hE
    refine (sim_asInt (hl.mono hle)).bd fun ρ2 n n' hle2 hn => ?_
    obtain rfl : n = n' := hn
    refine (sim_asInt ((hc.mono hle).mono hle2)).bd fun ρ3 m m' hle3 hm => ?_
    obtain rfl : m = m' := hm
    refine (sim_typeInfo elem).bd fun ρ4 i i' hle4 hi => ?_
    obtain ⟨rfl, _⟩ := hi
    dsimp only
    split
    · refine .dd ?_
      split
      · exact dead_left (dead_runtimePanic _)
      · split
        · exact dead_left (dead_runtimePanic _)
        · exact dead_bind (tame_choose _) fun _ => dead_left (dead_runtimePanic _)
    · refine (sim_askRoom _).bd fun ρ5 _ _ hle5 _ => ?_
      refine (sim_sizeOf elem).bd fun ρ6 s s' hle6 hs => ?_
      obtain rfl : s = s' := hs
      split
      · exact (sim_newRow elem (RelR.fill .empty _)).bd fun ρ7 a a' hle7 ha => .pr (.slice _ _ ha)
      · refine (sim_zeroValue hz0).bd fun ρ7 z z' hle7 hz => ?_
        exact (sim_newRow elem (hz.cells.fill _)).bd fun ρ8 a a' hle8 ha => .pr (.slice _ _ ha)
  | _ => exact .dd (dead_stuck _)
theorem sim_firstCells {x x' : Value} (hx : RelV ρ x x') (s n : Nat) : SimS Pg P RelR ρ (Builtin.firstCells s n x) (Builtin.firstCells s n x') := by
  cases hx with
  | sliceNil => exact .pr .empty
  | slice m c h => exact sim_loadCells h _
  | string b => exact .pr ⟨rfl, fun i v v' h1 h2 => by
      rw [h1] at h2
      cases h2
      simp only [Array.getElem?_map, Option.map_eq_some_iff] at h1
      obtain ⟨u, _, rfl⟩ := h1
      exact .int _ _⟩
  | _ => exact .dd (dead_stuck _)
theorem sim_lenOf {x x' : Value} (hx : RelV ρ x x') : SimS Pg P Same ρ (Builtin.lenOf x) (Builtin.lenOf x') := by
  cases hx <;> first | exact .pr rfl | exact .dd (dead_stuck _)
theorem RelR.zeros {z z' : Array Value} (h : RelR ρ z z') (n : Nat) : RelR ρ (Builtin.zeroCells z n) (Builtin.zeroCells z' n) := by
  unfold Builtin.zeroCells
  rw [← h.1]
  have := h.fill (n * z.size)
  rwa [← h.1] at this
theorem tame_holds (a : Addr) (n : Nat) : TameS Pg (Builtin.holdsCells a n) := tame_bind (tame_shape _) fun s => by
  split <;> exact tame_pure _
theorem tame_mayShare (s l n : Nat) (b : Option Addr) (x : Value) : TameS Pg (Builtin.mayShare s l n b x) := by
  have t : ∀ c : Bool, TameS Pg (if (!c) = true then Pure.pure true else (match x with | .slice (some b') _ _ => (do Pure.pure (!(← Builtin.holdsCells b' (n * s)) || b.any (·.block == b'.block))) | _ => Pure.pure false) : Sem Bool) := by
    intro c
    split
    · exact tame_pure _
    · split
      · exact tame_bind (tame_holds _ _) fun _ => tame_pure _
      · exact tame_pure _
  unfold Builtin.mayShare
  cases b with
  | none => exact tame_bind (tame_pure _) t
  | some a => exact tame_bind (tame_holds _ _) fun _ => tame_bind (tame_frozen _) fun _ => tame_bind (tame_pure _) t
def appNew (elem : TypeId) (size n c m : Nat) (s x : Value) : Sem Value := do
  let newCap ← choose (.appendCap (n + m) c elem)
  let i ← typeInfo elem
  askRoom (newCap * i.bytes)
  let old ← Builtin.firstCells size n s
  let new ← Builtin.firstCells size m x
  let z ← zeroValue elem
  let a ← newRow elem (old ++ new ++ Builtin.zeroCells z.cells (newCap - (n + m)))
  pure (.slice (some a) (n + m) newCap)
theorem sim_appNew {elem : TypeId} (hz0 : okZero P elem = true) (size n c m : Nat) {s s' x x' : Value} (hs : RelV ρ s s') (hx : RelV ρ x x') : SimS Pg P RelV ρ (appNew elem size n c m s x) (appNew elem size n c m s' x') := by
  refine SimS.bd (Q := Same) (.choose _ fun _ => .pure rfl) fun ρ1 q q' hle hq => ?_
  obtain rfl : q = q' := hq
  refine (sim_typeInfo elem).bd fun ρ2 i i' hle2 hi => ?_
  obtain ⟨rfl, _⟩ := hi
  refine (sim_askRoom _).bd fun ρ3 _ _ hle3 _ => ?_
  refine (sim_firstCells (((hs.mono hle).mono hle2).mono hle3) size n).bd fun ρ4 o o' hle4 ho => ?_
  refine (sim_firstCells ((((hx.mono hle).mono hle2).mono hle3).mono hle4) size m).bd fun ρ5 e e' hle5 he => ?_
  refine (sim_zeroValue hz0).bd fun ρ6 z z' hle6 hz => ?_
  exact (sim_newRow elem ((((ho.mono hle5).mono hle6).append (he.mono hle6)).append (hz.cells.zeros _))).bd fun ρ7 a a' _ ha => .pr (.slice _ _ ha)
def appEnd (elem : TypeId) (size : Nat) (base : Option Addr) (n c : Nat) (x : Value) (m : Nat) : Sem Value :=
  if n + m ≤ c then do
    let new ← Builtin.firstCells size m x
    match base with
    | some a => do
      let _ ← storeCells (a.add (n * size)) new.toList
      pure (.slice base (n + m) c)
    | none => pure (.slice base (n + m) c)
  else do
    let i ← typeInfo elem
    let big : Unit → Sem Value := fun _ => do
      let j ← typeInfo elem
      if Builtin.nextslicecap (n + m) c * j.bytes > 2 ^ 48 then do
        let r ← (do
          let sh ← Builtin.mayShare size n m base x
          if !sh then do
            let _ ← mark .noRoom
            unsupported (.resourceLimit "append: a slice or a string whose bytes no memory bears")
          else unsupported (.resourceLimit "append: a slice or a string whose bytes no memory bears") : Sem Unit)
        let _ := r
        appNew elem size n c m (.slice base n c) x
      else appNew elem size n c m (.slice base n c) x
    if ((n + m : Nat) : Int) > IntKind.i64.max ∧ (false = true ∨ i.bytes = 0) then do
      let r ← runtimePanic (.error "growslice: len out of range")
      big r
    else big ()
theorem sim_appEnd {elem : TypeId} (hz0 : okZero P elem = true) (size n c m : Nat) {base base' : Option Addr} {x x' : Value} (hb : (base = none ∧ base' = none ∧ n = 0 ∧ c = 0) ∨ ∃ a a', base = some a ∧ base' = some a' ∧ RelA ρ a a') (hx : RelV ρ x x') : SimS Pg P RelV ρ (appEnd elem size base n c x m) (appEnd elem size base' n c x' m) := by
  have hs : RelV ρ (.slice base n c) (.slice base' n c) := by
    rcases hb with ⟨rfl, rfl, rfl, rfl⟩ | ⟨a, a', rfl, rfl, ha⟩
    · exact .sliceNil
    · exact .slice n c ha
  unfold appEnd
  split
  · rename_i hnm
    refine (sim_firstCells hx size m).bd fun ρ1 e e' hle he => ?_
    rcases hb with ⟨rfl, rfl, rfl, rfl⟩ | ⟨a, a', rfl, rfl, ha⟩
    · obtain rfl : m = 0 := by omega
      exact .pr .sliceNil
    · refine (sim_storeCells _ ((ha.mono hle).add _) _ 0 he.list).bd fun ρ2 _ _ hle2 _ => ?_
      exact .pr (.slice _ _ ((ha.mono hle).mono hle2))
  · refine (sim_typeInfo elem).bd fun ρ1 i i' hle hi => ?_
    obtain ⟨rfl, _⟩ := hi
    dsimp only
    split
    · exact .dd (dead_left (dead_runtimePanic _))
    · refine (sim_typeInfo elem).bd fun ρ2 j j' hle2 hj => ?_
      obtain ⟨rfl, _⟩ := hj
      split
      · refine .dd (dead_left (dead_bind (tame_mayShare _ _ _ _ _) fun sh => ?_))
        split
        · exact dead_bind (tame_mark _) fun _ => dead_unsupported _
        · exact dead_unsupported _
      · exact sim_appNew hz0 size n c m ((hs.mono hle).mono hle2) ((hx.mono hle).mono hle2)
theorem sim_append {t u ty : TypeId} (hE : okElem P t = true) (hu : ∀ k, P.underlying u ≠ some (.int k)) {s s' x x' : Value} (hs : RelV ρ s s') (hx : RelV ρ x x') : SimS Pg P RelV ρ (Builtin.append_ #[t, u] ty #[s, x]) (Builtin.append_ #[t, u] ty #[s', x']) := by
  unfold Builtin.append_
  refine (sim_underlyingP t).bd fun ρ1 d d' hle hd => ?_
  obtain ⟨rfl, hd⟩ := hd
  cases d with
  | slice elem =>
    have hz0 : okZero P elem = true := by simpa [okElem, hd] using hE
    cases hs with
    | sliceNil =>
      refine (sim_sizeOf elem).bd fun ρ2 z z' hle2 hz => ?_
      obtain rfl : z = z' := hz
      refine (sim_underlyingP u).bd fun ρ3 e e' hle3 he => ?_
      obtain ⟨rfl, he⟩ := he
      have hx3 := ((hx.mono hle).mono hle2).mono hle3
      cases e with
      | int k => exact absurd he (hu k)
      | _ =>
        refine (sim_lenOf hx3).bd fun ρ4 m m' hle4 hm => ?_
        obtain rfl : m = m' := hm
        exact sim_appEnd hz0 z 0 0 m (.inl ⟨rfl, rfl, rfl, rfl⟩) (hx3.mono hle4)
    | slice n c h =>
      refine (sim_sizeOf elem).bd fun ρ2 z z' hle2 hz => ?_
      obtain rfl : z = z' := hz
      refine (sim_underlyingP u).bd fun ρ3 e e' hle3 he => ?_
      obtain ⟨rfl, he⟩ := he
      have hx3 := ((hx.mono hle).mono hle2).mono hle3
      have h3 := ((h.mono hle).mono hle2).mono hle3
      cases e with
      | int k => exact absurd he (hu k)
      | _ =>
        refine (sim_lenOf hx3).bd fun ρ4 m m' hle4 hm => ?_
        obtain rfl : m = m' := hm
        exact sim_appEnd hz0 z n c m (.inr ⟨_, _, rfl, rfl, h3.mono hle4⟩) (hx3.mono hle4)
    | _ => exact .dd (dead_stuck _)
  | _ => exact .dd (dead_stuck _)
theorem sim_len {t ty : TypeId} {x x' : Value} (hx : RelV ρ x x') : SimS Pg P RelV ρ (Builtin.len_ #[t] ty #[x]) (Builtin.len_ #[t] ty #[x']) := by
  unfold Builtin.len_
  refine (sim_underlying t).bd fun ρ1 d d' hle hd => ?_
  obtain rfl : d = d' := hd
  replace hx := hx.mono hle
  cases d with
  | pointer arr =>
    refine (sim_underlying arr).bd fun ρ2 e e' hle2 he => ?_
    obtain rfl : e = e' := he
    cases e <;> first | exact .pr (.int _ _) | exact .dd (dead_stuck _)
  | array n e => exact .pr (.int _ _)
  | _ => cases hx <;> first | exact .pr (.int _ _) | exact .dd (dead_stuck _)
theorem sim_min2 {x x' y y' : Value} (hx : RelV ρ x x') (hy : RelV ρ y y') : SimS Pg P RelV ρ (Builtin.min2 x y) (Builtin.min2 x' y') := by
  cases hx <;> cases hy
  all_goals first
    | exact .pr (.int _ _)
    | exact .dd (dead_stuck _)
    | exact .dd (dead_unsupported _)
    | (refine (sim_stringOp .leq _ _).bd fun ρ1 v v' hle hv => ?_
       refine (sim_asBool hv).bd fun ρ2 b b' hle2 hb => ?_
       obtain rfl : b = b' := hb
       exact .pr (.string _))
theorem sim_min {ts : Array TypeId} {ty : TypeId} {x x' y y' : Value} (hx : RelV ρ x x') (hy : RelV ρ y y') : SimS Pg P RelV ρ (Builtin.min_ ts ty #[x, y]) (Builtin.min_ ts ty #[x', y']) :=
  (sim_min2 hx hy).bd fun _ _ _ _ hv => .pr hv
theorem sim_convert {src dst : TypeId} {k k' : IntKind} (h1 : P.underlying src = some (.int k)) (h2 : P.underlying dst = some (.int k')) {x x' : Value} (hx : RelV ρ x x') : SimS Pg P RelV ρ (convert src dst x) (convert src dst x') := by
  unfold convert
  refine (sim_underlyingP src).bd fun ρ1 d d' hle hd => ?_
  obtain ⟨rfl, hd⟩ := hd
  refine (sim_underlyingP dst).bd fun ρ2 e e' hle2 he => ?_
  obtain ⟨rfl, he⟩ := he
  rw [h1] at hd
  rw [h2] at he
  cases hd
  cases he
  cases (hx.mono hle).mono hle2
  all_goals first
    | exact .pr (.int _ _)
    | exact .dd (dead_unsupported _)
end
section
variable {Pg P : Program} [Kin Pg P] {ρ : Ren}
theorem sim_mapSame {α β : Type} (g : α → Sem β) (hg : ∀ {ρ : Ren} (a : α), SimS Pg P Same ρ (g a) (g a)) (l : List α) : ∀ {ρ : Ren}, SimS Pg P Same ρ (l.mapM g) (l.mapM g) := by
  induction l with
  | nil => intro ρ; exact .pr rfl
  | cons a l ih =>
    intro ρ
    rw [List.mapM_cons]
    refine (hg a).bd fun ρ1 x x' _ hx => ?_
    obtain rfl : x = x' := hx
    refine ih.bd fun ρ2 y y' _ hy => ?_
    obtain rfl : y = y' := hy
    exact .pr rfl
def fullField (P : Program) (s : TypeId) (f : Nat) : Bool :=
  match P.underlying s with
  | some (.struct fs) => (match fs[f]? with | some fl => (match P.info? fl.type with | some i => i.size != 0 | none => true) | none => true)
  | _ => true
theorem sim_sizeOfP (t : TypeId) : SimS Pg P (fun _ a b => a = b ∧ ∃ i, P.info? t = some i ∧ i.size = a) ρ (sizeOf t) (sizeOf t) := (sim_typeInfo t).bd fun _ a b _ h => by
  obtain ⟨rfl, h⟩ := h
  exact .pr ⟨rfl, a, h, rfl⟩
theorem sim_fieldAt (s : TypeId) {x x' : Value} (hx : RelV ρ x x') (f : Nat) (hfull : fullField P s f = true) : SimS Pg P RelV ρ (Instr.fieldAt s x f) (Instr.fieldAt s x' f) := by
  unfold Instr.fieldAt
  refine (sim_underlyingP s).bd fun ρ1 d d' hle hd => ?_
  obtain ⟨rfl, hd⟩ := hd
  cases d with
  | struct fields =>
    dsimp only
    cases hfl : fields[f]? with
    | none => exact .dd (dead_stuck _)
    | some fl =>
      refine (sim_sureAddr (hx.mono hle)).bd fun ρ2 a a' hle2 ha => ?_
      refine SimS.bd (Q := RelA) ?_ fun ρ3 u u' _ hu => .pr (.ptr hu)
      unfold fieldPlace
      refine (sim_sizeOfP _).bd fun ρ3 n n' hle3 hn => ?_
      obtain ⟨rfl, i, hi, rfl⟩ := hn
      split
      · rename_i h0
        simp [fullField, hd, hfl, hi, h0] at hfull
      · exact .pr ((ha.mono hle3).add _)
  | _ => exact .dd (dead_stuck _)
theorem sim_cap {t ty : TypeId} {x x' : Value} (ht : (match P.underlying t with | some (.chan _ _) => false | _ => true) = true) (hx : RelV ρ x x') : SimS Pg P RelV ρ (Builtin.cap_ #[t] ty #[x]) (Builtin.cap_ #[t] ty #[x']) := by
  unfold Builtin.cap_
  refine (sim_underlyingP t).bd fun ρ1 d d' hle hd => ?_
  obtain ⟨rfl, hd⟩ := hd
  rw [hd] at ht
  replace hx := hx.mono hle
  cases d with
  | pointer arr =>
    refine (sim_underlying arr).bd fun ρ2 e e' hle2 he => ?_
    obtain rfl : e = e' := he
    cases e <;> first | exact .pr (.int _ _) | exact .dd (dead_stuck _)
  | array n e => exact .pr (.int _ _)
  | chan d e => cases ht
  | _ => cases hx <;> first | exact .pr (.int _ _) | exact .dd (dead_stuck _)
theorem sim_makeInterface (t : TypeId) {x x' : Value} (hx : RelV ρ x x') : SimS Pg P RelV ρ (Instr.makeInterface t x) (Instr.makeInterface t x') := by
  unfold Instr.makeInterface
  refine (sim_underlying t).bd fun ρ1 d d' hle hd => ?_
  obtain rfl : d = d' := hd
  cases d <;> first | exact .dd (dead_stuck _) | exact .pr (.iface t (hx.mono hle))
theorem tame_sys (c : Sys) : TameS Pg (sys c) := fun w x w1 e => by cases e
theorem dead_panic (x : Value) : Dead Pg (Instr.panic x) := by
  unfold Instr.panic
  cases x
  case iface => exact dead_goPanic _
  case nilIface =>
    refine dead_bind ?_ fun n => ?_
    · unfold Instr.panicnil
      refine tame_bind (tame_sys _) fun r => ?_
      cases r <;> first
        | exact (dead_stuck (Pg := Pg) _).2
        | exact tame_bind tame_program fun _ => tame_pure _
    · split
      · exact dead_goPanic _
      · exact dead_runtimePanic _
  all_goals exact dead_stuck _
/-! ### literals -/
theorem RelR.puts {c c' x x' : Array Value} (hc : RelR ρ c c') (hx : RelR ρ x x') (off : Nat) : RelR ρ (x.zipIdx.foldl (fun cs (c, j) => cs.setIfInBounds (off + j) c) c) (x'.zipIdx.foldl (fun cs (c, j) => cs.setIfInBounds (off + j) c) c') := by
  obtain ⟨x⟩ := x
  obtain ⟨x'⟩ := x'
  have key : ∀ (l l' : List Value) (k : Nat) (c c' : Array Value), RelR ρ l.toArray l'.toArray → RelR ρ c c' → RelR ρ ((l.zipIdx k).foldl (fun cs (x : Value × Nat) => cs.setIfInBounds (off + x.2) x.1) c) ((l'.zipIdx k).foldl (fun cs (x : Value × Nat) => cs.setIfInBounds (off + x.2) x.1) c') := by
    intro l
    induction l with
    | nil =>
      intro l' k c c' h hc
      have : l' = [] := by have := h.1; simp at this; exact List.length_eq_zero_iff.1 this.symm
      subst this
      exact hc
    | cons a l ih =>
      intro l' k c c' h hc
      cases l' with
      | nil => have := h.1; simp at this
      | cons b l' =>
        rw [List.zipIdx_cons, List.zipIdx_cons, List.foldl_cons, List.foldl_cons]
        refine ih l' (k + 1) _ _ ⟨by have := h.1; simpa using this, fun i v v' h1 h2 => h.2 (i + 1) v v' (by simpa using h1) (by simpa using h2)⟩ (hc.set _ (h.2 0 a b (by simp) (by simp)))
  rw [← Array.foldl_toList, ← Array.foldl_toList, Array.toList_zipIdx, Array.toList_zipIdx]
  exact key x x' 0 c c' hx hc
inductive RelP (ρ : Ren) : List (Nat × Value) → List (Nat × Value) → Prop
  | nil : RelP ρ [] []
  | cons {x y : Nat × Value} {l l' : List (Nat × Value)} (h : x.1 = y.1 ∧ RelV ρ x.2 y.2) (hl : RelP ρ l l') : RelP ρ (x :: l) (y :: l')
theorem RelP.mono {ρ' : Ren} (hle : ρ.le ρ') {l l' : List (Nat × Value)} (h : RelP ρ l l') : RelP ρ' l l' := by
  induction h with
  | nil => exact .nil
  | cons h _ ih => exact .cons ⟨h.1, h.2.mono hle⟩ ih
theorem fill_rel (place : Nat → Option (Nat × Nat)) {l l' : List (Nat × Value)} (h : RelP ρ l l') : ∀ {c c' : Array Value}, RelR ρ c c' → (Instr.fill place c l = none ∧ Instr.fill place c' l' = none) ∨ ∃ d d', Instr.fill place c l = some d ∧ Instr.fill place c' l' = some d' ∧ RelR ρ d d' := by
  induction h with
  | nil => intro c c' hc; exact .inr ⟨c, c', rfl, rfl, hc⟩
  | @cons x y l l' hxy _ ih =>
    intro c c' hc
    obtain ⟨i, v⟩ := x
    obtain ⟨j, v'⟩ := y
    obtain ⟨rfl, hv⟩ := hxy
    simp only at hv
    simp only [Instr.fill]
    cases place i with
    | none => exact .inl ⟨rfl, rfl⟩
    | some os =>
      obtain ⟨off, size⟩ := os
      dsimp only
      have e1 := hv.cells.1
      have e2 := hc.1
      rw [← e1, ← e2]
      split
      · exact .inl ⟨rfl, rfl⟩
      · exact ih (hc.puts hv.cells off)
theorem sim_buildSlice {t : TypeId} (hE : okElem P t = true) (n : Nat) {p p' : Array (Nat × Value)} (hp : RelP ρ p.toList p'.toList) : SimS Pg P RelV ρ (Instr.buildSlice t n p) (Instr.buildSlice t n p') := by
  unfold Instr.buildSlice
  refine (sim_underlyingP t).bd fun ρ1 d d' hle hd => ?_
  obtain ⟨rfl, hd⟩ := hd
  cases d with
  | slice elem =>
    have hz0 : okZero P elem = true := by simpa [okElem, hd] using hE
    refine (sim_sizeOf elem).bd fun ρ2 s s' hle2 hs => ?_
    obtain rfl : s = s' := hs
    dsimp only
    split
    · exact .dd (dead_left (dead_unsupported _))
    · have fin : ∀ {ρ3 : Ren} {z z' : Array Value}, ρ2.le ρ3 → RelR ρ3 z z' → SimS Pg P RelV ρ3 (match Instr.fill (fun i => some (i * s, s)) ((Array.range (n * s)).map (z[· % z.size]!)) p.toList with | some cells => (do Pure.pure (.slice (some (← newRow elem cells)) n n)) | _ => stuck "buildSlice: a part of the wrong size") (match Instr.fill (fun i => some (i * s, s)) ((Array.range (n * s)).map (z'[· % z'.size]!)) p'.toList with | some cells => (do Pure.pure (.slice (some (← newRow elem cells)) n n)) | _ => stuck "buildSlice: a part of the wrong size") := fun {ρ3 z z'} hle3 hz => by
        have hp3 : RelP ρ3 p.toList p'.toList := ((hp.mono hle).mono hle2).mono hle3
        rcases fill_rel (fun i => some (i * s, s)) hp3 (hz.fill (n * s)) with ⟨h1, h2⟩ | ⟨c, c', h1, h2, hc⟩
        · simp only [h1, h2]
          exact .dd (dead_stuck _)
        · simp only [h1, h2]
          exact (sim_newRow elem hc).bd fun _ _ _ _ ha => .pr (.slice n n ha)
      split
      · exact fin (.refl _) .empty
      · exact (sim_zeroValue hz0).bd fun ρ3 v v' hle3 hv => fin hle3 hv.cells
  | _ => exact .dd (dead_stuck _)
theorem sim_build {t : TypeId} (hz0 : okZero P t = true) {p p' : Array (Nat × Value)} (hp : RelP ρ p.toList p'.toList) : SimS Pg P RelV ρ (Instr.build t p) (Instr.build t p') := by
  unfold Instr.build
  refine (sim_zeroValue hz0).bd fun ρ1 z z' hle hz => ?_
  refine (sim_underlying t).bd fun ρ2 d d' hle2 hd => ?_
  obtain rfl : d = d' := hd
  have hz2 := hz.cells.mono hle2
  have hp2 : RelP ρ2 p.toList p'.toList := (hp.mono hle).mono hle2
  cases d with
  | struct fields =>
    dsimp only
    rw [Array.mapM_eq_mapM_toList]
    refine SimS.bd (Q := Same) ?_ fun ρ3 pl pl' hle3 hpl => ?_
    · refine (sim_mapSame _ (fun f => ?_) fields.toList).bd fun _ a b _ hab => ?_
      · refine (sim_sizeOf _).bd fun _ a b _ hab => ?_
        obtain rfl : a = b := hab
        exact .pr rfl
      · obtain rfl : a = b := hab
        exact .pr rfl
    · obtain rfl : pl = pl' := hpl
      rcases fill_rel (pl[·]?) (hp2.mono hle3) (hz2.mono hle3) with ⟨h1, h2⟩ | ⟨c, c', h1, h2, hc⟩
      · simp only [h1, h2]
        exact .dd (dead_stuck _)
      · simp only [h1, h2]
        exact .pr hc.agg
  | array n elem =>
    refine (sim_sizeOf elem).bd fun ρ3 s s' hle3 hs => ?_
    obtain rfl : s = s' := hs
    rcases fill_rel (fun i => some (i * s, s)) (hp2.mono hle3) (hz2.mono hle3) with ⟨h1, h2⟩ | ⟨c, c', h1, h2, hc⟩
    · simp only [h1, h2]
      exact .dd (dead_stuck _)
    · simp only [h1, h2]
      exact .pr hc.agg
  | _ => exact .dd (dead_stuck _)
end
end Go.Proofs.YthjapmdikbmmkaaDoor
