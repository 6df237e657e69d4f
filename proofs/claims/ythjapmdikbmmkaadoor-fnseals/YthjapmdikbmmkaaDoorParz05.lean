/-
  A part of the proof.
-/
import Derived.Test.YthjapmdikbmmkaaDoorParz04
import Derived.Conc.Own
namespace Go.Proofs.YthjapmdikbmmkaaDoor
open Go
set_option maxRecDepth 100000
def eqOk (P : Program) (t : TypeId) (y : Operand) : Bool :=
  match P.underlying t with
  | some .bool | some .string | some (.slice _) => true
  | some (.int _) => (match P.info? t with | some i => (match i.desc with | .named "sync.copyChecker" _ => false | _ => true) | none => true)
  | some (.interface _) => (match y with | .const .nilIface => true | _ => false)
  | _ => false
def simpleD (d : TypeDesc) : Bool := match d with | .interface _ | .struct _ | .array _ _ => false | _ => true
section
variable {Pg P : Program} [Kin Pg P] {ρ : Ren}
theorem sim_numbersEq (hG : Fits P ρ) {t : TypeId} (ht : (match P.info? t with | some i => (match i.desc with | .named "sync.copyChecker" _ => false | _ => true) | none => true) = true) {a a' b b' : Addr} (ha : RelA ρ a a') (hb : RelA ρ b b') :
    SimS Pg P Same ρ (do
      let (a, b) := ((← behindNumber a).1, (← behindNumber b).1)
      if a.block == b.block && a.block < (← program).globals.size then return (← byteOf a) == (← byteOf b)
      let .named "sync.copyChecker" _ := (← typeInfo t).desc | unsupported .addressObserved
      if a == b then Pure.pure true else unsupported .addressObserved) (do
      let (a, b) := ((← behindNumber a').1, (← behindNumber b').1)
      if a.block == b.block && a.block < (← program).globals.size then return (← byteOf a) == (← byteOf b)
      let .named "sync.copyChecker" _ := (← typeInfo t).desc | unsupported .addressObserved
      if a == b then Pure.pure true else unsupported .addressObserved) := by
  refine (sim_behindNumber ha).bd fun ρ1 x x' hle hx => ?_
  refine (sim_behindNumber (hb.mono hle)).bd fun ρ2 y y' hle2 hy => ?_
  obtain ⟨x, _⟩ := x
  obtain ⟨x', _⟩ := x'
  obtain ⟨y, _⟩ := y
  obtain ⟨y', _⟩ := y'
  have hx := hx.1.mono hle2
  have hy := hy.1
  simp only at hx hy
  refine SimS.bind (Q := fun _ p q => p.globals.size = P.globals.size ∧ q = P) (.program (.pure ⟨by rw [‹Kin Pg P›.tables], rfl⟩)) fun ρ3 p p' hle3 hp => ?_
  obtain ⟨h1, rfl⟩ := hp
  have hG3 : ρ3.G = p'.globals.size := (hG.mono (hle.trans (hle2.trans hle3))).size
  simp only [h1]
  by_cases hc : (x.block == y.block && decide (x.block < p'.globals.size)) = true
  · rw [if_pos hc]
    simp only [Bool.and_eq_true, beq_iff_eq, decide_eq_true_eq] at hc
    have e1 := (hx.mono hle3).2.2.2.1 (by rw [hG3]; exact hc.2)
    have e2 := (hy.mono hle3).2.2.2.1 (by rw [hG3, ← hc.1]; exact hc.2)
    have l1 : ρ3.lo x.block = 0 := ρ3.glo _ (by rw [hG3]; exact hc.2)
    have l2 : ρ3.lo y.block = 0 := ρ3.glo _ (by rw [hG3, ← hc.1]; exact hc.2)
    rw [if_pos (by simp only [Bool.and_eq_true, beq_iff_eq, decide_eq_true_eq, e1, e2]; exact hc)]
    refine (sim_byteOf (hx.mono hle3) l1).bd fun ρ4 u u' hle4 hu => ?_
    obtain rfl : u = u' := hu
    refine (sim_byteOf ((hy.mono hle3).mono hle4) (by rw [hle4.lo]; exact l2)).bd fun ρ5 v v' _ hv => ?_
    obtain rfl : v = v' := hv
    exact .pr rfl
  · rw [if_neg hc]
    refine .dd ?_
    refine ⟨fun w c w1 e => ?_, ?_⟩
    · obtain ⟨i, w0, h2, h3⟩ := run_bind_two e
      have hi : Pg.info? t = some i := by
        have : (match Pg.info? t with | some i => (Pure.pure i : Sem TypeInfo) | none => stuck "no such type").run Pg w = .ok i w0 := h2
        cases h4 : Pg.info? t with
        | none => rw [h4] at this; cases this
        | some j => rw [h4] at this; cases this; rfl
      rw [kin_info (P := p') t] at hi
      rw [hi] at ht
      dsimp only at ht h3
      split at h3
      · rename_i hdesc
        rw [hdesc] at ht
        cases ht
      · cases h3
    · refine tame_bind (tame_typeInfo _) fun i => ?_
      split
      · split
        · exact tame_pure _
        · exact (dead_unsupported (Pg := Pg) _).2
      · exact (dead_unsupported (Pg := Pg) _).2
set_option maxHeartbeats 1000000 in
theorem sim_equal (hG : Fits P ρ) {t : TypeId} {y : Operand} (ht : eqOk P t y = true) {a a' b b' : Value} (ha : RelV ρ a a') (hb : RelV ρ b b') (hn : y = .const .nilIface → b = .nilIface ∧ b' = .nilIface) : SimS Pg P Same ρ (Op.equal t a b) (Op.equal t a' b') := by
  unfold Op.equal
  rw [show Op.maxDepth = 9999 + 1 from rfl]
  unfold Op.equalIn
  refine (sim_underlyingP t).bd fun ρ1 d d' hle hd => ?_
  obtain ⟨rfl, hd⟩ := hd
  unfold eqOk at ht
  rw [hd] at ht
  replace ha := ha.mono hle
  replace hb := hb.mono hle
  have hG1 : Fits P ρ1 := hG.mono hle
  cases d with
  | bool =>
    cases ha with
    | bool x => cases hb <;> first | exact .pr rfl | exact .dd (dead_stuck _)
    | _ => exact .dd (dead_stuck _)
  | string =>
    cases ha with
    | string x => cases hb <;> first | exact .pr rfl | exact .dd (dead_stuck _)
    | _ => exact .dd (dead_stuck _)
  | slice e =>
    cases ha with
    | sliceNil => cases hb <;> first | exact .pr rfl | exact .dd (dead_stuck _)
    | slice n c h => cases hb <;> first | exact .pr rfl | exact .dd (dead_stuck _)
    | _ => exact .dd (dead_stuck _)
  | interface ms =>
    have hy : y = .const .nilIface := by
      revert ht
      cases y with
      | const v => cases v <;> simp
      | _ => simp
    obtain ⟨rfl, rfl⟩ := hn hy
    cases ha <;> first | exact .pr rfl | exact .dd (dead_stuck _)
  | int k0 =>
    cases ha with
    | int k n =>
      cases hb with
      | int k' m =>
        dsimp only
        split
        · exact .pr rfl
        · exact .dd (dead_stuck _)
      | ptr h =>
        by_cases h0 : n = 0
        · subst h0; exact .pr rfl
        · refine .dd ?_
          split <;> first
            | exact dead_unsupported _
            | simp_all
      | ptrNil => exact .dd (dead_unsupported _)
      | _ => exact .dd (dead_stuck _)
    | @ptr x x' h =>
      cases hb with
      | @ptr z z' h' => exact sim_numbersEq hG1 ht h h'
      | int k' m =>
        by_cases h0 : m = 0
        · subst h0; exact .pr rfl
        · refine .dd ?_
          split <;> first
            | exact dead_unsupported _
            | simp_all
      | _ => exact .dd (dead_unsupported _)
    | ptrNil => cases hb <;> exact .dd (dead_unsupported _)
    | _ => cases hb <;> first | exact .dd (dead_stuck _) | exact .dd (dead_unsupported _)
  | _ => cases ht
theorem eqGuardType_no {t : TypeId} {d : TypeDesc} (hd : P.underlying t = some d) (hno : simpleD d = true) (n : Nat) : P.eqGuardType (n + 1) t = false := by
  unfold Program.eqGuardType
  rw [hd]
  cases d <;> first | rfl | cases hno
theorem guard_nil {t : TypeId} {d : TypeDesc} (hd : P.underlying t = some d) (hno : simpleD d = true) : SimS Pg P Same ρ (do if ← Op.eqGuardIn Op.maxDepth t .nilIface .nilIface then unsupported (.noEntry "binop/eql: two nil values of an interface type with methods, neither of them the literal nil")) (do if ← Op.eqGuardIn Op.maxDepth t .nilIface .nilIface then unsupported (.noEntry "binop/eql: two nil values of an interface type with methods, neither of them the literal nil")) := by
  refine SimS.bd (Q := Same) ?_ fun ρ1 u u' _ hu => ?_
  · rw [show Op.maxDepth = 9999 + 1 from rfl]
    unfold Op.eqGuardIn
    refine (sim_underlyingP t).bd fun ρ1 e e' hle he => ?_
    obtain ⟨rfl, he⟩ := he
    rw [hd] at he
    cases he
    cases d <;> first | exact .pr rfl | cases hno
  · obtain rfl : u = u' := hu
    split
    · exact .dd (dead_unsupported _)
    · exact .pr rfl
theorem guard_agg {t : TypeId} {d : TypeDesc} (hd : P.underlying t = some d) (hno : simpleD d = true) (s s' : Sem Unit) : SimS Pg P Same ρ (do let p ← program; let q ← program; if (!p.eqGuardType q.depth t) = true then Pure.pure () else s) (do let p ← program; let q ← program; if (!p.eqGuardType q.depth t) = true then Pure.pure () else s') := by
  refine SimS.bind (Q := fun _ p q => p = Pg ∧ q = P) (.program (.pure ⟨rfl, rfl⟩)) fun ρ1 p p' hle hp => ?_
  obtain ⟨h1, h2⟩ := hp
  refine SimS.bind (Q := fun _ p q => p = Pg ∧ q = P) (.program (.pure ⟨rfl, rfl⟩)) fun ρ2 q q' hle2 hq => ?_
  obtain ⟨h3, h4⟩ := hq
  rw [h1, h2, h3, h4]
  have e1 : P.eqGuardType P.depth t = false := eqGuardType_no hd hno _
  have e2 : Pg.eqGuardType Pg.depth t = false := eqGuardType_no (by rw [kin_underlying (P := P)]; exact hd) hno _
  rw [e1, e2]
  exact .pr rfl
theorem sim_eqGuard (op : BinOp) {t : TypeId} {x y : Operand} (ht : eqOk P t y = true) {a a' b b' : Value} (ha : RelV ρ a a') (hb : RelV ρ b b') (hn : y = .const .nilIface → b = .nilIface ∧ b' = .nilIface) : SimS Pg P Same ρ (eqGuard op t x y a b) (eqGuard op t x y a' b') := by
  by_cases hop : op = .eql ∨ op = .neq
  · by_cases hy : y = .const .nilIface
    · obtain ⟨rfl, rfl⟩ := hn hy
      subst hy
      rcases hop with rfl | rfl <;> cases ha <;> first | exact .pr rfl | (cases x <;> exact .pr rfl)
    · have hd : ∃ d, P.underlying t = some d ∧ simpleD d = true := by
        unfold eqOk at ht
        cases hu : P.underlying t with
        | none => rw [hu] at ht; cases ht
        | some d =>
          rw [hu] at ht
          refine ⟨d, rfl, ?_⟩
          cases d with
          | interface ms =>
            exfalso
            revert ht
            cases y with
            | const v => cases v <;> first | exact absurd rfl hy | simp
            | _ => simp
          | struct f => cases ht
          | array n e => cases ht
          | _ => rfl
      obtain ⟨d, hd, hno⟩ := hd
      rcases hop with rfl | rfl
      all_goals
        cases ha with
        | nilIface =>
          cases hb with
          | nilIface => cases x <;> cases y <;> first | exact .pr rfl | exact guard_nil hd hno
          | _ => exact .pr rfl
        | agg hx h =>
          cases hb with
          | agg hx' h' => exact guard_agg hd hno _ _
          | _ => exact .pr rfl
        | _ => exact .pr rfl
  · cases op <;> first | exact .pr rfl | exact absurd (.inl rfl) hop | exact absurd (.inr rfl) hop
theorem sim_binEq (hG : Fits P ρ) {op : BinOp} (hop : op = .eql ∨ op = .neq) {t : TypeId} {y : Operand} (ht : eqOk P t y = true) {a a' b b' : Value} (ha : RelV ρ a a') (hb : RelV ρ b b') (hn : y = .const .nilIface → b = .nilIface ∧ b' = .nilIface) : SimS Pg P RelV ρ (binOp op t a b) (binOp op t a' b') := by
  have gen : ∀ f : Bool → Bool, SimS Pg P RelV ρ (do Pure.pure (.bool (f (← Op.equal t a b)))) (do Pure.pure (.bool (f (← Op.equal t a' b')))) := fun f => (sim_equal hG ht ha hb hn).bd fun _ u u' _ hu => by
    obtain rfl : u = u' := hu
    exact .pr (.bool _)
  have g1 := gen id
  have g2 := gen not
  rcases hop with rfl | rfl
  · cases ha with
    | int k n =>
      cases hb with
      | int k' m =>
        show SimS Pg P RelV ρ (if k ≠ k' then _ else _) (if k ≠ k' then _ else _)
        split
        · exact .dd (dead_stuck _)
        · exact sim_intCmp _ n m
      | _ => exact g1
    | string s =>
      cases hb with
      | string s' => exact sim_stringOp .eql s s'
      | _ => exact g1
    | _ => exact g1
  · cases ha with
    | int k n =>
      cases hb with
      | int k' m =>
        show SimS Pg P RelV ρ (if k ≠ k' then _ else _) (if k ≠ k' then _ else _)
        split
        · exact .dd (dead_stuck _)
        · exact sim_intCmp _ n m
      | _ => exact g2
    | string s =>
      cases hb with
      | string s' => exact sim_stringOp .neq s s'
      | _ => exact g2
    | _ => exact g2
/-! ### bytes made a string; clear -/
theorem sim_stringOf (e : ByteArray → Sem (ForInStep ByteArray)) (he : ∀ s, Dead Pg (e s)) (l : List Value) : ∀ {ρ : Ren} (l' : List Value) (s : ByteArray), RelR ρ l.toArray l'.toArray → SimS Pg P Same ρ (forIn l s fun c s => match c with | .int .u8 n => Pure.pure (ForInStep.yield (s.push (UInt8.ofNat n.toNat))) | _ => e s) (forIn l' s fun c s => match c with | .int .u8 n => Pure.pure (ForInStep.yield (s.push (UInt8.ofNat n.toNat))) | _ => e s) := by
  induction l with
  | nil =>
    intro ρ l' s h
    have : l' = [] := by have := h.1; simp at this; exact List.length_eq_zero_iff.1 this.symm
    subst this
    exact .pr rfl
  | cons a l ih =>
    intro ρ l' s h
    cases l' with
    | nil => have := h.1; simp at this
    | cons b l' =>
      rw [List.forIn_cons, List.forIn_cons]
      have hab := h.2 0 a b (by simp) (by simp)
      have hl : RelR ρ l.toArray l'.toArray := ⟨by have := h.1; simpa using this, fun i v v' h1 h2 => h.2 (i + 1) v v' (by simpa using h1) (by simpa using h2)⟩
      cases hab with
      | int k n =>
        cases k <;> first
          | exact .dd (dead_left (he _))
          | exact ih l' _ hl
      | _ => exact .dd (dead_left (he _))
theorem sim_bytesToString {x x' : Value} (hx : RelV ρ x x') : SimS Pg P RelV ρ (Conv.bytesToString x) (Conv.bytesToString x') := by
  unfold Conv.bytesToString
  cases hx with
  | sliceNil => exact .pr (.string _)
  | slice n c h =>
    refine (sim_loadCells h n).bd fun ρ1 r r' hle hr => ?_
    obtain ⟨r⟩ := r
    obtain ⟨r'⟩ := r'
    refine SimS.bd (Q := Same) ?_ fun ρ2 s s' _ hs => ?_
    · simp only [List.forIn_toArray]
      exact sim_stringOf (Pg := Pg) (P := P) (fun s => do stuck "bytesToString: byte expected"; Pure.pure (ForInStep.yield s)) (fun s => dead_left (dead_stuck _)) r r' ByteArray.empty hr
    · obtain rfl : s = s' := hs
      exact .pr (.string _)
  | _ => exact .dd (dead_stuck _)
theorem sim_convertBytes {src dst e : TypeId} (h1 : P.underlying src = some (.slice e)) (h2 : P.underlying dst = some .string) (h3 : P.underlying e = some (.int .u8)) {x x' : Value} (hx : RelV ρ x x') : SimS Pg P RelV ρ (convert src dst x) (convert src dst x') := by
  unfold convert
  refine (sim_underlyingP src).bd fun ρ1 d d' hle hd => ?_
  obtain ⟨rfl, hd⟩ := hd
  refine (sim_underlyingP dst).bd fun ρ2 f f' hle2 hf => ?_
  obtain ⟨rfl, hf⟩ := hf
  rw [h1] at hd
  rw [h2] at hf
  cases hd
  cases hf
  have hx2 := (hx.mono hle).mono hle2
  have gen : ∀ {z z' : Value}, RelV ρ2 z z' → SimS Pg P RelV ρ2 (do match ← underlying e with | .int .u8 => Conv.bytesToString z | .int .i32 => Conv.runesToString z | _ => stuck "Convert: a slice of what to string?") (do match ← underlying e with | .int .u8 => Conv.bytesToString z' | .int .i32 => Conv.runesToString z' | _ => stuck "Convert: a slice of what to string?") := fun hz =>
    (sim_underlyingP e).bd fun ρ3 g g' hle3 hg => by
      obtain ⟨rfl, hg⟩ := hg
      rw [h3] at hg
      cases hg
      exact sim_bytesToString (hz.mono hle3)
  cases hx2 with
  | int k n => exact .pr (.string _)
  | string s => exact .pr (.string s)
  | bool b => exact gen (.bool b)
  | ptrNil => exact gen .ptrNil
  | ptr h => exact gen (.ptr h)
  | sliceNil => exact gen .sliceNil
  | slice n c h => exact gen (.slice n c h)
  | mapNil => exact gen .mapNil
  | chanNil => exact gen .chanNil
  | func f g0 g1 g2 g3 g4 => exact gen (.func f g0 g1 g2 g3 g4)
  | nilFunc => exact gen .nilFunc
  | iface t h => exact gen (.iface t h)
  | nilIface => exact gen .nilIface
  | agg g1 g2 => exact gen (.agg g1 g2)
  | tuple g1 g2 => exact gen (.tuple g1 g2)
theorem sim_clear {t ty : TypeId} {x x' : Value} (hE : okElem P t = true) (hx : RelV ρ x x') : SimS Pg P RelV ρ (Builtin.clear_ #[t] ty #[x]) (Builtin.clear_ #[t] ty #[x']) := by
  unfold Builtin.clear_
  refine (sim_underlyingP t).bd fun ρ1 d d' hle hd => ?_
  obtain ⟨rfl, hd⟩ := hd
  replace hx := hx.mono hle
  have un : ∀ {ρ : Ren}, RelV ρ (.tuple #[]) (.tuple #[]) := RelR.tuple .empty
  cases hx with
  | mapNil => cases d <;> exact .pr un
  | sliceNil => cases d <;> exact .pr un
  | slice n c h =>
    cases n with
    | zero => cases d <;> exact .pr un
    | succ n =>
      cases d with
      | slice elem =>
        have hz0 : okZero P elem = true := by simpa [okElem, hd] using hE
        refine (sim_zeroValue hz0).bd fun ρ2 z z' hle2 hz => ?_
        exact (sim_storeCells _ (h.mono hle2) _ 0 (by simpa using (hz.cells.zeros (n + 1)).list)).bd fun _ _ _ _ _ => .pr un
      | _ => exact .dd (dead_left (dead_stuck _))
  | _ => cases d <;> exact .dd (dead_left (dead_stuck _))
end
section
variable {Pg P : Program} [Kin Pg P] {ρ : Ren}
def appsZ (elem : TypeId) (size m : Nat) : Sem (Array Value) := if m * size = 0 then pure #[] else do
  let z ← zeroValue elem
  pure (Builtin.zeroCells z.cells m)
theorem sim_appsZ {elem : TypeId} (hz0 : okZero P elem = true) (size m : Nat) : SimS Pg P RelR ρ (appsZ elem size m) (appsZ elem size m) := by
  unfold appsZ
  split
  · exact .pr .empty
  · exact (sim_zeroValue hz0).bd fun ρ1 z z' _ hz => .pr (hz.cells.zeros _)
def appNewZ (elem : TypeId) (size n c m : Nat) (s : Value) : Sem Value := do
  let newCap ← choose (.appendCap (n + m) c elem)
  let i ← typeInfo elem
  askRoom (newCap * i.bytes)
  let old ← Builtin.firstCells size n s
  let new ← appsZ elem size m
  let z ← zeroValue elem
  let a ← newRow elem (old ++ new ++ Builtin.zeroCells z.cells (newCap - (n + m)))
  pure (.slice (some a) (n + m) newCap)
theorem sim_appNewZ {elem : TypeId} (hz0 : okZero P elem = true) (size n c m : Nat) {s s' : Value} (hs : RelV ρ s s') : SimS Pg P RelV ρ (appNewZ elem size n c m s) (appNewZ elem size n c m s') := by
  refine SimS.bd (Q := Same) (.choose _ fun _ => .pure rfl) fun ρ1 q q' hle hq => ?_
  obtain rfl : q = q' := hq
  refine (sim_typeInfo elem).bd fun ρ2 i i' hle2 hi => ?_
  obtain ⟨rfl, _⟩ := hi
  refine (sim_askRoom _).bd fun ρ3 _ _ hle3 _ => ?_
  refine (sim_firstCells (((hs.mono hle).mono hle2).mono hle3) size n).bd fun ρ4 o o' hle4 ho => ?_
  refine (sim_appsZ hz0 size m).bd fun ρ5 e e' hle5 he => ?_
  refine (sim_zeroValue hz0).bd fun ρ6 z z' hle6 hz => ?_
  exact (sim_newRow elem ((((ho.mono hle5).mono hle6).append (he.mono hle6)).append (hz.cells.zeros _))).bd fun ρ7 a a' _ ha => .pr (.slice _ _ ha)
def appEndZ (elem : TypeId) (size : Nat) (base : Option Addr) (n c m : Nat) : Sem Value :=
  if n + m ≤ c then do
    let new ← appsZ elem size m
    match base with
    | some a => do
      let _ ← storeCells (a.add (n * size)) new.toList
      pure (.slice base (n + m) c)
    | none => pure (.slice base (n + m) c)
  else do
    let i ← typeInfo elem
    let big : Unit → Sem Value := fun _ => do
      let j ← typeInfo elem
      if Builtin.nextslicecap (n + m) c * j.bytes > 2 ^ 48 then do
        let r ← (runtimePanic (.error "growslice: len out of range") : Sem Unit)
        let _ := r
        appNewZ elem size n c m (.slice base n c)
      else appNewZ elem size n c m (.slice base n c)
    if ((n + m : Nat) : Int) > IntKind.i64.max ∧ (true = true ∨ i.bytes = 0) then do
      let r ← runtimePanic (.error "growslice: len out of range")
      big r
    else big ()
theorem sim_appEndZ {elem : TypeId} (hz0 : okZero P elem = true) (size n c m : Nat) {base base' : Option Addr} (hb : (base = none ∧ base' = none ∧ n = 0 ∧ c = 0) ∨ ∃ a a', base = some a ∧ base' = some a' ∧ RelA ρ a a') : SimS Pg P RelV ρ (appEndZ elem size base n c m) (appEndZ elem size base' n c m) := by
  have hs : RelV ρ (.slice base n c) (.slice base' n c) := by
    rcases hb with ⟨rfl, rfl, rfl, rfl⟩ | ⟨a, a', rfl, rfl, ha⟩
    · exact .sliceNil
    · exact .slice n c ha
  unfold appEndZ
  split
  · rename_i hnm
    refine (sim_appsZ hz0 size m).bd fun ρ1 e e' hle he => ?_
    rcases hb with ⟨rfl, rfl, rfl, rfl⟩ | ⟨a, a', rfl, rfl, ha⟩
    · obtain rfl : m = 0 := by omega
      exact .pr .sliceNil
    · refine (sim_storeCells _ ((ha.mono hle).add _) _ 0 he.list).bd fun ρ2 _ _ hle2 _ => ?_
      exact .pr (.slice _ _ ((ha.mono hle).mono hle2))
  · refine (sim_typeInfo elem).bd fun ρ1 i i' hle hi => ?_
    obtain ⟨rfl, _⟩ := hi
    dsimp only
    split
    · exact .dd (dead_left (dead_runtimePanic _))
    · refine (sim_typeInfo elem).bd fun ρ2 j j' hle2 hj => ?_
      obtain ⟨rfl, _⟩ := hj
      split
      · exact .dd (dead_left (dead_runtimePanic _))
      · exact sim_appNewZ hz0 size n c m ((hs.mono hle).mono hle2)
def manyK (elem : TypeId) (K : Nat → Sem Value) (y : Int) : Sem Value :=
  let l := IntKind.i64.wrap y
  let jp1 : Unit → Sem Value := fun _ => do
    let i ← typeInfo elem
    let jp2 : Unit → Sem Value := fun _ => do
      let n ← pure l.toNat
      K n
    if l * i.bytes > 2 ^ 48 then do
      let made ← choose (.extern "append.ofMake.carriedOut" 2)
      let r ← (runtimePanic (.error (if made == 1 then "makeslice: len out of range" else "growslice: len out of range")) : Sem Unit)
      jp2 r
    else jp2 ()
  if l < 0 then do
    let r ← (runtimePanic (.error "makeslice: len out of range") : Sem Unit)
    jp1 r
  else jp1 ()
theorem sim_manyK (elem : TypeId) {K K' : Nat → Sem Value} (y : Int) (hK : ∀ ρ' m, ρ.le ρ' → SimS Pg P RelV ρ' (K m) (K' m)) : SimS Pg P RelV ρ (manyK elem K y) (manyK elem K' y) := by
  unfold manyK
  dsimp only
  split
  · exact .dd (dead_left (dead_runtimePanic _))
  · refine (sim_typeInfo elem).bd fun ρ2 i i' hle2 hi => ?_
    obtain ⟨rfl, _⟩ := hi
    split
    · exact .dd (dead_bind (tame_choose _) fun _ => dead_left (dead_runtimePanic _))
    · exact hK ρ2 _ hle2
theorem sim_appendZ {t u ty : TypeId} {k : IntKind} (hE : okElem P t = true) (hu : P.underlying u = some (.int k)) {s s' x x' : Value} (hs : RelV ρ s s') (hx : RelV ρ x x') : SimS Pg P RelV ρ (Builtin.append_ #[t, u] ty #[s, x]) (Builtin.append_ #[t, u] ty #[s', x']) := by
  unfold Builtin.append_
  refine (sim_underlyingP t).bd fun ρ1 d d' hle hd => ?_
  obtain ⟨rfl, hd⟩ := hd
  cases d with
  | slice elem =>
    have hz0 : okZero P elem = true := by simpa [okElem, hd] using hE
    cases hs with
    | sliceNil =>
      refine (sim_sizeOf elem).bd fun ρ2 z z' hle2 hz => ?_
      obtain rfl : z = z' := hz
      refine (sim_underlyingP u).bd fun ρ3 e e' hle3 he => ?_
      obtain ⟨rfl, he⟩ := he
      rw [hu] at he
      cases he
      have hx3 := ((hx.mono hle).mono hle2).mono hle3
      refine (show SimS Pg P RelV ρ3 (asInt x >>= manyK elem fun m => appEndZ elem z none 0 0 m) (asInt x' >>= manyK elem fun m => appEndZ elem z none 0 0 m) from ((sim_asInt hx3).bd fun ρ4 y y' hle4 hy => ?_))
      obtain rfl : y = y' := hy
      exact sim_manyK elem y fun ρ5 m hle5 => sim_appEndZ hz0 z 0 0 m (.inl ⟨rfl, rfl, rfl, rfl⟩)
    | slice n c h =>
      refine (sim_sizeOf elem).bd fun ρ2 z z' hle2 hz => ?_
      obtain rfl : z = z' := hz
      refine (sim_underlyingP u).bd fun ρ3 e e' hle3 he => ?_
      obtain ⟨rfl, he⟩ := he
      rw [hu] at he
      cases he
      have hx3 := ((hx.mono hle).mono hle2).mono hle3
      have h3 := ((h.mono hle).mono hle2).mono hle3
      refine (show SimS Pg P RelV ρ3 (asInt x >>= manyK elem fun m => appEndZ elem z (some _) n c m) (asInt x' >>= manyK elem fun m => appEndZ elem z (some _) n c m) from ((sim_asInt hx3).bd fun ρ4 y y' hle4 hy => ?_))
      obtain rfl : y = y' := hy
      exact sim_manyK elem y fun ρ5 m hle5 => sim_appEndZ hz0 z n c m (.inr ⟨_, _, rfl, rfl, ((h3.mono hle4).mono hle5)⟩)
    | _ => exact .dd (dead_stuck _)
  | _ => exact .dd (dead_stuck _)
end
inductive RelN (ρ : Ren) : Next → Next → Prop
  | value {v v' : Value} (h : RelV ρ v v') : RelN ρ (.value v) (.value v')
  | skip : RelN ρ .skip .skip
  | enter (f : FuncId) {x x' : Array Value} (hA : ρ.A f ∨ ρ.D f x.size) (h : RelR ρ x x') : RelN ρ (.enter f x) (.enter f x')
structure Globs where
  g : Nat → Bool
  d : Nat → Nat → Bool
instance : CoeFun Globs (fun _ => Nat → Bool) := ⟨Globs.g⟩
def okX (Gl : Globs) (Al : Nat → Bool) : Operand → Bool
  | .tmp _ => true
  | .const v => flatC v
  | .global g => Gl g
  | .func f => Al f
def isInt (P : Program) (t : TypeId) : Bool := match P.underlying t with | some (.int _) => true | _ => false
def noChan (P : Program) (t : TypeId) : Bool := match P.underlying t with | some (.chan _ _) => false | _ => true
def bytesStr (P : Program) (s d : TypeId) : Bool := match P.underlying s, P.underlying d with
  | some (.slice e), some .string => (match P.underlying e with | some (.int .u8) => true | _ => false)
  | _, _ => false
def okCall (P : Program) (Gl : Globs) (Al : Nat → Bool) (c : Call) : Bool :=
  c.args.toList.all (okX Gl Al) && match c.callee with
  | .value f => okX Gl Al f || (match f with | .func h => Gl.d h c.args.size | _ => false)
  | .builtin .append => c.args.size == 2 && c.argTypes.size == 2 && okElem P (c.argTypes.getD 0 0)
  | .builtin .len => c.args.size == 1 && c.argTypes.size == 1
  | .builtin .min => c.args.size == 2
  | .builtin .cap => c.args.size == 1 && c.argTypes.size == 1 && noChan P (c.argTypes.getD 0 0)
  | .builtin .clear => c.args.size == 1 && c.argTypes.size == 1 && okElem P (c.argTypes.getD 0 0)
  | _ => false
def okOp (P : Program) (Gl : Globs) (Al : Nat → Bool) : Op → Bool
  | .move x | .assign x | .box _ x | .load _ x | .nilCheck x | .unOp _ _ x | .extract x _ | .sliceToArrayPointer _ x => okX Gl Al x
  | .pick a b c => okX Gl Al a && okX Gl Al b && okX Gl Al c
  | .alloc e => okZero P e
  | .store _ a x => okX Gl Al a && okX Gl Al x
  | .binOp op t x y _ => okX Gl Al x && okX Gl Al y && ((op != .eql && op != .neq) || eqOk P t y)
  | .convert s d x => okX Gl Al x && ((isInt P s && isInt P d) || bytesStr P s d)
  | .build t p => okZero P t && p.toList.all fun x => okX Gl Al x.2
  | .buildSlice t _ p => okElem P t && p.toList.all fun x => okX Gl Al x.2
  | .fieldAddr s x f => okX Gl Al x && fullField P s f
  | .makeInterface _ x => okX Gl Al x
  | .panic _ => true
  | .makeFunc (.func f) x y => Al f && x.toList.all (okX Gl Al) && y.toList.all (okX Gl Al)
  | .makeSlice t l c => okX Gl Al l && okX Gl Al c && okElem P t
  | .slice _ x lo hi mx => okX Gl Al x && lo.all (okX Gl Al) && hi.all (okX Gl Al) && mx.all (okX Gl Al)
  | .indexAddr _ x i | .index _ x i => okX Gl Al x && okX Gl Al i
  | .call c => okCall P Gl Al c
  | _ => false
def RelE (ρ : Ren) (Gl : Globs) (Al : Nat → Bool) (ev ev' : Operand → Value) : Prop := ∀ x, okX Gl Al x = true → RelV ρ (ev x) (ev' x)
section
variable {Pg P : Program} [Kin Pg P] {ρ : Ren} {Gl : Globs} {Al : Nat → Bool} {ev ev' : Operand → Value}
theorem RelE.map (h : RelE ρ Gl Al ev ev') {l : Array Operand} (hl : l.toList.all (okX Gl Al) = true) : RelR ρ (l.map ev) (l.map ev') := by
  refine ⟨by simp, fun i v v' h1 h2 => ?_⟩
  rw [Array.getElem?_map] at h1 h2
  cases hx : l[i]? with
  | none => rw [hx] at h1; cases h1
  | some x =>
    rw [hx] at h1 h2
    cases h1; cases h2
    have hm : x ∈ l := Array.mem_of_getElem? hx
    exact h x (List.all_eq_true.1 hl x (by simpa using hm))
theorem RelE.opt (h : RelE ρ Gl Al ev ev') {o : Option Operand} (ho : o.all (okX Gl Al) = true) : RelM ρ (o.map ev) (o.map ev') := by
  cases o with
  | none => exact .inl ⟨rfl, rfl⟩
  | some x => exact .inr ⟨_, _, rfl, rfl, h x (by simpa using ho)⟩
theorem RelE.parts (h : RelE ρ Gl Al ev ev') {l : Array (Nat × Operand)} (hl : (l.toList.all fun x => okX Gl Al x.2) = true) : RelP ρ (l.map fun (i, x) => (i, ev x)).toList (l.map fun (i, x) => (i, ev' x)).toList := by
  rw [Array.toList_map, Array.toList_map]
  generalize l.toList = k at hl
  induction k with
  | nil => exact .nil
  | cons a k ih =>
    simp only [List.all_cons, Bool.and_eq_true] at hl
    exact .cons ⟨rfl, h a.2 hl.1⟩ (ih hl.2)
theorem bytesStr_some {s d : TypeId} (h : bytesStr P s d = true) : ∃ e, P.underlying s = some (.slice e) ∧ P.underlying d = some .string ∧ P.underlying e = some (.int .u8) := by
  unfold bytesStr at h
  split at h
  · rename_i e h1 h2
    split at h
    · exact ⟨e, h1, h2, by assumption⟩
    · cases h
  · cases h
theorem isInt_some {t : TypeId} (h : isInt P t = true) : ∃ k, P.underlying t = some (.int k) := by
  unfold isInt at h
  split at h
  · exact ⟨_, by assumption⟩
  · cases h
theorem sim_value {s s' : Sem Value} (h : SimS Pg P RelV ρ s s') : SimS Pg P RelN ρ (do pure (.value (← s))) (do pure (.value (← s'))) := h.bd fun _ _ _ _ hv => .pr (.value hv)
theorem sim_unit {s s' : Sem Unit} (h : SimS Pg P Same ρ s s') : SimS Pg P RelN ρ (do s; pure .skip) (do s'; pure .skip) := h.bd fun _ _ _ _ _ => .pr .skip
theorem sim_unary (op : UnOp) {x x' : Value} (hx : RelV ρ x x') : SimS Pg P RelV ρ (Op.unary op x) (Op.unary op x') := by
  cases hx with
  | int k n =>
    cases op with
    | neg => exact sim_intArith .sub k 0 n
    | xor => exact sim_intBits .xor k _ n
    | _ => exact .dd (dead_stuck _)
  | bool b => cases op <;> first | exact .pr (.bool _) | exact .dd (dead_stuck _)
  | _ => cases op <;> first | exact .dd (dead_stuck _) | exact .dd (dead_unsupported _)
theorem sim_arrayAt (t : TypeId) {x x' : Value} (hx : RelV ρ x x') : SimS Pg P RelV ρ (Instr.arrayAt t x) (Instr.arrayAt t x') := by
  unfold Instr.arrayAt
  refine (sim_underlying t).bd fun ρ1 d d' hle hd => ?_
  obtain rfl : d = d' := hd
  cases d with
  | array n e =>
    cases hx with
    | sliceNil =>
      dsimp only
      split
      · exact .dd (dead_runtimePanic _)
      · exact .pr .ptrNil
    | slice len c h =>
      dsimp only
      split
      · exact .dd (dead_runtimePanic _)
      · exact .pr (.ptr (h.mono hle))
    | _ => exact .dd (dead_stuck _)
  | _ => exact .dd (dead_stuck _)
def Bodies (Pg P : Program) (ρ : Ren) : Prop := ∀ f, (ρ.A f ∨ ∃ n, ρ.D f n) → (∃ fn, Pg.funcs[f]? = some fn ∧ (fn.name == "runtime.NumGoroutine") = false ∧ fn.body.isNone = false) ∧ ∃ fn, P.funcs[f]? = some fn ∧ (fn.name == "runtime.NumGoroutine") = false ∧ fn.body.isNone = false
theorem sim_callFunc (hB : Bodies Pg P ρ) (f : FuncId) {x x' : Array Value} (hA : ρ.A f ∨ ρ.D f x.size) (hx : RelR ρ x x') : SimS Pg P RelN ρ (callFunc f x) (callFunc f x') := by
  obtain ⟨⟨fg, g1, g2, g3⟩, fn, h1, h2, h3⟩ := hB f (hA.imp id fun h => ⟨_, h⟩)
  refine .program ?_
  show SimS Pg P RelN ρ (match Pg.funcs[f]? with | none => _ | some fn => _) (match P.funcs[f]? with | none => _ | some fn => _)
  rw [h1, g1]
  dsimp only
  rw [h2, h3, g2, g3]
  exact .pr (.enter f hA hx)
theorem sim_callValue (hB : Bodies Pg P ρ) {v v' : Value} {x x' : Array Value} (hv : RelV ρ v v') (hx : RelR ρ x x') : SimS Pg P RelN ρ (do let d ← Deferred.ofValue v x; invoke d.target d.args) (do let d ← Deferred.ofValue v' x'; invoke d.target d.args) := by
  cases hv with
  | @func f a a' b b' hA h1 h2 h3 h4 => exact sim_callFunc hB f (.inl hA) ((RelR.append ⟨h1, h2⟩ hx).append ⟨h3, h4⟩)
  | nilFunc => exact .dd (show Dead Pg (runtimePanic .nilDeref : Sem Next) from dead_runtimePanic _)
  | _ => exact .dd (dead_left (dead_stuck _))
theorem two_of {α : Type} {x : Array α} (h : x.size = 2) : ∃ a b, x = #[a, b] := by
  match x, h with
  | ⟨[a, b]⟩, _ => exact ⟨a, b, rfl⟩
theorem one_of {α : Type} {x : Array α} (h : x.size = 1) : ∃ a, x = #[a] := by
  match x, h with
  | ⟨[a]⟩, _ => exact ⟨a, rfl⟩
theorem map_two {α β : Type} (f : α → β) (a b : α) : (#[a, b] : Array α).map f = #[f a, f b] := by simp
theorem map_one {α β : Type} (f : α → β) (a : α) : (#[a] : Array α).map f = #[f a] := by simp
theorem sim_execOp (hC : ∀ v, ev (.const v) = v ∧ ev' (.const v) = v) (hFn : ∀ f, ev (.func f) = .func (.func f) #[] #[] ∧ ev' (.func f) = .func (.func f) #[] #[]) (hD : ∀ f n, Gl.d f n = true → ρ.D f n) (hB : Bodies Pg P ρ) (hG : Fits P ρ) (hAl : ∀ f, Al f = true → ρ.A f) (hE : RelE ρ Gl Al ev ev') (o : Oper) (ho : okOp P Gl Al o.op = true) : SimS Pg P RelN ρ (execOp ev o) (execOp ev' o) := by
  obtain ⟨dst, op, type, pos, after, guard⟩ := o
  simp only at ho
  cases op with
  | move x => exact .pr (.value (hE x ho))
  | assign x => exact .pr (.value (hE x ho))
  | pick a b c =>
    simp only [okOp, Bool.and_eq_true] at ho
    refine (sim_asBool (hE a ho.1.1)).bd fun ρ1 z z' hle hz => ?_
    obtain rfl : z = z' := hz
    refine .pr (.value ?_)
    split
    · exact (hE b ho.1.2).mono hle
    · exact (hE c ho.2).mono hle
  | alloc e => exact sim_value ((sim_zeroValue ho).bd fun ρ1 z z' _ hz => (sim_newVar e hz).bd fun ρ2 a a' _ ha => .pr (.ptr ha))
  | box e x => exact sim_value ((sim_newVar e (hE x ho)).bd fun ρ2 a a' _ ha => .pr (.ptr ha))
  | load t a => exact sim_value ((sim_sureAddr (hE a ho)).bd fun ρ1 u u' _ hu => sim_loadVar hu t)
  | store t a x =>
    simp only [okOp, Bool.and_eq_true] at ho
    exact sim_unit ((sim_sureAddr (hE a ho.1)).bd fun ρ1 u u' hle hu => sim_storeVar hu ((hE x ho.2).mono hle) t)
  | nilCheck x =>
    have hx := hE x ho
    show SimS Pg P RelN ρ (match ev x with | .pointer none | .nilIface | .nilFunc => _ | .func (.method name) first captured => _ | x => _) (match ev' x with | .pointer none | .nilIface | .nilFunc => _ | .func (.method name) first captured => _ | x => _)
    generalize ev x = v at hx
    generalize ev' x = v' at hx
    cases hx with
    | ptrNil => exact .dd (dead_runtimePanic _)
    | nilIface => exact .dd (dead_runtimePanic _)
    | nilFunc => exact .dd (dead_runtimePanic _)
    | ptr h => exact .pr (.value (.ptr h))
    | bool b => exact .pr (.value (.bool b))
    | int k n => exact .pr (.value (.int k n))
    | string s => exact .pr (.value (.string s))
    | sliceNil => exact .pr (.value .sliceNil)
    | slice n c h => exact .pr (.value (.slice n c h))
    | mapNil => exact .pr (.value .mapNil)
    | chanNil => exact .pr (.value .chanNil)
    | func f hA hx h1 hy h2 => exact .pr (.value (.func f hA hx h1 hy h2))
    | iface t h => exact .pr (.value (.iface t h))
    | agg hx h => exact .pr (.value (.agg hx h))
    | tuple hx h => exact .pr (.value (.tuple hx h))
  | binOp op t x y r =>
    simp only [okOp, Bool.and_eq_true] at ho
    refine sim_value ?_
    by_cases hop : op = .eql ∨ op = .neq
    · have ht : eqOk P t y = true := by rcases hop with rfl | rfl <;> simpa using ho.2
      have hn : y = .const .nilIface → ev y = .nilIface ∧ ev' y = .nilIface := fun e => by rw [e]; exact hC _
      exact (sim_eqGuard op ht (hE x ho.1.1) (hE y ho.1.2) hn).bd fun ρ1 _ _ hle _ => sim_binEq (hG.mono hle) hop ht ((hE x ho.1.1).mono hle) ((hE y ho.1.2).mono hle) hn
    · have hne : op ≠ .eql ∧ op ≠ .neq := ⟨fun e => hop (.inl e), fun e => hop (.inr e)⟩
      have hg : SimS Pg P Same ρ (eqGuard op t x y (ev x) (ev y)) (eqGuard op t x y (ev' x) (ev' y)) := by
        unfold eqGuard
        cases op <;> first | exact absurd rfl hne.1 | exact absurd rfl hne.2 | exact .pr rfl
      exact hg.bd fun ρ1 _ _ hle _ => sim_binOp (hG.mono hle) op hne t ((hE x ho.1.1).mono hle) ((hE y ho.1.2).mono hle)
  | build t p =>
    simp only [okOp, Bool.and_eq_true] at ho
    exact sim_value (sim_build ho.1 (hE.parts ho.2))
  | buildSlice t n p =>
    simp only [okOp, Bool.and_eq_true] at ho
    exact sim_value (sim_buildSlice ho.1 n (hE.parts ho.2))
  | fieldAddr s x f =>
    simp only [okOp, Bool.and_eq_true] at ho
    exact sim_value (sim_fieldAt s (hE x ho.1) f ho.2)
  | makeInterface t x => exact sim_value (sim_makeInterface t (hE x ho))
  | panic x => exact .dd (dead_left (dead_panic _))
  | unOp op t x => exact sim_value (sim_unary op (hE x ho))
  | convert s d x =>
    simp only [okOp, Bool.and_eq_true, Bool.or_eq_true] at ho
    rcases ho.2 with h | h
    · obtain ⟨k, hk⟩ := isInt_some h.1
      obtain ⟨k', hk'⟩ := isInt_some h.2
      exact sim_value (sim_convert hk hk' (hE x ho.1))
    · obtain ⟨e, h1, h2, h3⟩ := bytesStr_some h
      exact sim_value (sim_convertBytes h1 h2 h3 (hE x ho.1))
  | sliceToArrayPointer t x => exact sim_value (sim_arrayAt t (hE x ho))
  | makeFunc fn x y =>
    cases fn with
    | func f =>
      simp only [okOp, Bool.and_eq_true] at ho
      have h1 := hE.map ho.1.2
      have h2 := hE.map ho.2
      exact .pr (.value (.func f (hAl f ho.1.1) h1.1 h1.2 h2.1 h2.2))
    | _ => cases ho
  | makeSlice t l c =>
    simp only [okOp, Bool.and_eq_true] at ho
    exact sim_value (sim_makeSlice ho.2 (hE l ho.1.1) (hE c ho.1.2))
  | slice t x lo hi mx =>
    simp only [okOp, Bool.and_eq_true] at ho
    exact sim_value (sim_sliceAt (hE x ho.1.1.1) (hE.opt ho.1.1.2) (hE.opt ho.1.2) (hE.opt ho.2))
  | indexAddr t x i =>
    simp only [okOp, Bool.and_eq_true] at ho
    exact sim_value (sim_indexAt (hE x ho.1) (hE i ho.2))
  | index t x i =>
    simp only [okOp, Bool.and_eq_true] at ho
    exact sim_value (sim_index (hE x ho.1) (hE i ho.2))
  | extract x i => exact sim_value (sim_extract (hE x ho) i)
  | call c =>
    obtain ⟨callee, args, argTypes⟩ := c
    simp only [okOp, okCall, Bool.and_eq_true] at ho
    have hargs := hE.map ho.1
    cases callee with
    | value f =>
      have ho2 : okX Gl Al f = true ∨ ∃ h, f = .func h ∧ Gl.d h args.size = true := by
        have := ho.2
        simp only [Bool.or_eq_true] at this
        rcases this with h | h
        · exact .inl h
        · cases f <;> simp_all
      rcases ho2 with h | ⟨h, rfl, hd⟩
      · exact sim_callValue hB (hE f h) hargs
      · show SimS Pg P RelN ρ (do let d ← Deferred.ofValue (ev (.func h)) (args.map ev); invoke d.target d.args) (do let d ← Deferred.ofValue (ev' (.func h)) (args.map ev'); invoke d.target d.args)
        rw [(hFn h).1, (hFn h).2]
        exact sim_callFunc hB h (.inr (by simpa using hD h _ hd)) ((RelR.append .empty hargs).append .empty)
    | builtin b =>
      cases b with
      | append =>
        simp only [Bool.and_eq_true, beq_iff_eq] at ho
        obtain ⟨a, b, rfl⟩ := two_of ho.2.1.1
        obtain ⟨t, u, rfl⟩ := two_of ho.2.1.2
        have hl := ho.1
        simp only [List.all_cons, List.all_nil, Bool.and_true, Bool.and_eq_true] at hl
        refine sim_value (?_ : SimS Pg P RelV ρ (Builtin.append_ #[t, u] type ((#[a, b] : Array Operand).map ev)) (Builtin.append_ #[t, u] type ((#[a, b] : Array Operand).map ev')))
        rw [map_two, map_two]
        by_cases hi : ∃ k, P.underlying u = some (.int k)
        · obtain ⟨k, hk⟩ := hi
          exact sim_appendZ ho.2.2 hk (hE a hl.1) (hE b hl.2)
        · exact sim_append ho.2.2 (fun k hk => hi ⟨k, hk⟩) (hE a hl.1) (hE b hl.2)
      | len =>
        simp only [Bool.and_eq_true, beq_iff_eq] at ho
        obtain ⟨a, rfl⟩ := one_of ho.2.1
        obtain ⟨t, rfl⟩ := one_of ho.2.2
        have hl := ho.1
        simp only [List.all_cons, List.all_nil, Bool.and_true] at hl
        refine sim_value (?_ : SimS Pg P RelV ρ (Builtin.len_ #[t] type ((#[a] : Array Operand).map ev)) (Builtin.len_ #[t] type ((#[a] : Array Operand).map ev')))
        rw [map_one, map_one]
        exact sim_len (hE a hl)
      | cap =>
        simp only [Bool.and_eq_true, beq_iff_eq] at ho
        obtain ⟨a, rfl⟩ := one_of ho.2.1.1
        obtain ⟨t, rfl⟩ := one_of ho.2.1.2
        have hl := ho.1
        simp only [List.all_cons, List.all_nil, Bool.and_true] at hl
        refine sim_value (?_ : SimS Pg P RelV ρ (Builtin.cap_ #[t] type ((#[a] : Array Operand).map ev)) (Builtin.cap_ #[t] type ((#[a] : Array Operand).map ev')))
        rw [map_one, map_one]
        exact sim_cap ho.2.2 (hE a hl)
      | clear =>
        simp only [Bool.and_eq_true, beq_iff_eq] at ho
        obtain ⟨a, rfl⟩ := one_of ho.2.1.1
        obtain ⟨t, rfl⟩ := one_of ho.2.1.2
        have hl := ho.1
        simp only [List.all_cons, List.all_nil, Bool.and_true] at hl
        refine sim_value (?_ : SimS Pg P RelV ρ (Builtin.clear_ #[t] type ((#[a] : Array Operand).map ev)) (Builtin.clear_ #[t] type ((#[a] : Array Operand).map ev')))
        rw [map_one, map_one]
        exact sim_clear ho.2.2 (hE a hl)
      | min =>
        simp only [beq_iff_eq] at ho
        obtain ⟨a, b, rfl⟩ := two_of ho.2
        have hl := ho.1
        simp only [List.all_cons, List.all_nil, Bool.and_true, Bool.and_eq_true] at hl
        refine sim_value (?_ : SimS Pg P RelV ρ (Builtin.min_ argTypes type ((#[a, b] : Array Operand).map ev)) (Builtin.min_ argTypes type ((#[a, b] : Array Operand).map ev')))
        rw [map_two, map_two]
        exact sim_min (hE a hl.1) (hE b hl.2)
      | _ => exact absurd ho.2 (by simp)
    | _ => exact absurd ho.2 (by simp)
  | _ => cases ho
end
end Go.Proofs.YthjapmdikbmmkaaDoor
namespace Go.Proofs.YthjapmdikbmmkaaDoor
open Go Go.Conc
set_option maxRecDepth 100000
def okCode (P : Program) (Gl : Globs) (Al : Nat → Bool) : Code → Bool
  | .skip | .exit _ | .ret => true
  | .region _ ops _ => ops.toList.all fun o => okOp P Gl Al o.op
  | .seq a b => okCode P Gl Al a && okCode P Gl Al b
  | .cond c a b => okX Gl Al c && okCode P Gl Al a && okCode P Gl Al b
  | .block _ b | .loop b => okCode P Gl Al b
  | _ => false
def okItem (P : Program) (Gl : Globs) (Al : Nat → Bool) : Item → Bool
  | .code c | .inLoop c => okCode P Gl Al c
  | .inBlock _ => true
  | .inRegion ops _ => ops.toList.all fun o => okOp P Gl Al o.op
  | _ => false
structure TameP (P : Program) (Gl : Globs) (Al : Nat → Bool) : Prop where
  body : ∀ f, Al f = true → ∃ fn body, P.funcs[f]? = some fn ∧ (fn.name == "runtime.NumGoroutine") = false ∧ fn.body = some body ∧ okCode P Gl Al body = true
  shut : ∀ f n, Gl.d f n = false
structure Tame2 (Pg P : Program) (Gl : Globs) (Al : Nat → Bool) : Prop where
  body : ∀ f, Al f = true → ∃ fn body, Pg.funcs[f]? = some fn ∧ P.funcs[f]? = some fn ∧ (fn.name == "runtime.NumGoroutine") = false ∧ fn.body = some body ∧ okCode P Gl Al body = true
  door : ∀ f n, Gl.d f n = true → (∃ fn, Pg.funcs[f]? = some fn ∧ (fn.name == "runtime.NumGoroutine") = false ∧ fn.body.isNone = false) ∧ ∃ fn, P.funcs[f]? = some fn ∧ (fn.name == "runtime.NumGoroutine") = false ∧ fn.body.isNone = false
theorem TameP.two {P : Program} {Gl : Globs} {Al : Nat → Bool} (h : TameP P Gl Al) : Tame2 P P Gl Al :=
  ⟨fun f hf => let ⟨fn, body, h1, h2, h3, h4⟩ := h.body f hf; ⟨fn, body, h1, h1, h2, h3, h4⟩, fun f n hd => by rw [h.shut f n] at hd; cases hd⟩
structure RelF (P : Program) (Gl : Globs) (Al : Nat → Bool) (ρ : Ren) (fr fr' : Frame) : Prop where
  fn : fr'.fn = fr.fn
  al : Al fr.fn = true
  tmps : RelR ρ fr.tmps fr'.tmps
  todo : fr'.todo = fr.todo
  ok : ∀ i ∈ fr.todo, okItem P Gl Al i = true
  defers : fr.defers = []
  defers' : fr'.defers = []
  mode : fr'.mode = fr.mode
  run : fr.mode = .run ∨ fr.mode = .returning
  kind : fr.kind = .normal
  kind' : fr'.kind = .normal
  round : fr.roundOf = none
  round' : fr'.roundOf = none
inductive RelFs (P : Program) (Gl : Globs) (Al : Nat → Bool) (ρ : Ren) : List Frame → List Frame → Prop
  | nil : RelFs P Gl Al ρ [] []
  | cons {fr fr' : Frame} {st st' : List Frame} (h : RelF P Gl Al ρ fr fr') (hr : fr.mode = .run) (ho : ∃ ops i rest k, fr.todo = .inRegion ops (i :: rest) :: k) (hs : RelFs P Gl Al ρ st st') : RelFs P Gl Al ρ (fr :: st) (fr' :: st')
structure Sit (L : Nat) (P : Program) (Gl : Globs) (Al : Nat → Bool) (Sh : Nat → Prop) (ρ : Ren) (w w' : World) : Prop where
  rel : RelW L Sh ρ w w'
  sh : ∀ b, Sh b → b < w.heap.size
  hG : Fits P ρ
  hA : ρ.A = fun f => Al f = true
  hD : ρ.D = fun f n => Gl.d f n = true
  gl : ∀ g, Gl g = true → ρ g g ∧ ρ.lo g = 0
  big : P.globals.size ≤ w.heap.size
section
variable {L : Nat} {P : Program} {Gl : Globs} {Al : Nat → Bool} {Sh : Nat → Prop} {ρ ρ1 : Ren} {w w' w1 w1' : World} {fr fr' : Frame} {st st' : List Frame}
def follow (w w' : World) : World := { w' with tape := fun i q => w.tape (i - w'.drawn + w.drawn) q }
theorem RelW.follow (h : RelW L Sh ρ w w') (L' : Nat) : RelW L' Sh ρ w (follow w w') := by
  refine ⟨h.obj, h.fn, h.inj, h.low0, fun i q _ => ?_, h.shared⟩
  show w.tape (w.drawn + i) q = w.tape (w'.drawn + i - w'.drawn + w.drawn) q
  rw [Nat.add_sub_cancel_left, Nat.add_comm]
theorem RelW.retape (h : RelW L Sh ρ w w') {τ τ' : Nat → Question → Nat} {d d' L' : Nat} (ht : ∀ i q, d + i < L' → τ (d + i) q = τ' (d' + i) q) : RelW L' Sh ρ { w with tape := τ, drawn := d } { w' with tape := τ', drawn := d' } := ⟨h.obj, h.fn, h.inj, h.low0, ht, h.shared⟩
theorem RelF.mono (hle : ρ.le ρ1) (h : RelF P Gl Al ρ fr fr') : RelF P Gl Al ρ1 fr fr' := { h with tmps := h.tmps.mono hle }
theorem RelFs.mono (hle : ρ.le ρ1) (h : RelFs P Gl Al ρ st st') : RelFs P Gl Al ρ1 st st' := by
  induction h with
  | nil => exact .nil
  | cons h hr ho _ ih => exact .cons (h.mono hle) hr ho ih
theorem Sit.step (h : Sit L P Gl Al Sh ρ w w') (hw : RelW L Sh ρ1 w1 w1') (hf : Frm Sh ρ ρ1 w w1 w' w1') : Sit L P Gl Al Sh ρ1 w1 w1' :=
  ⟨hw, fun b hb => Nat.lt_of_lt_of_le (h.sh b hb) hf.size, h.hG.mono hf.le, hf.le.2.1.trans h.hA, hf.le.dd.trans h.hD, fun g hg => ⟨hf.le.app (h.gl g hg).1, by rw [hf.le.lo]; exact (h.gl g hg).2⟩, Nat.le_trans h.big hf.size⟩
theorem Tame2.bodies {Pg : Program} (h : Tame2 Pg P Gl Al) (hA : ρ.A = fun f => Al f = true) (hD : ρ.D = fun f n => Gl.d f n = true) : Bodies Pg P ρ := fun f hf => by
  rw [hA, hD] at hf
  rcases hf with hf | ⟨n, hf⟩
  · obtain ⟨fn, body, h1, h1', h2, h3, _⟩ := h.body f hf
    exact ⟨⟨fn, h1, h2, by simp [h3]⟩, fn, h1', h2, by simp [h3]⟩
  · exact h.door f n hf
theorem TameP.bodies (h : TameP P Gl Al) (hA : ρ.A = fun f => Al f = true) (hD : ρ.D = fun f n => Gl.d f n = true) : Bodies P P ρ := h.two.bodies hA hD
theorem RelR.getD {x x' : Array Value} (h : RelR ρ x x') (i : Nat) {d d' : Value} (hd : RelV ρ d d') : RelV ρ (x.getD i d) (x'.getD i d') := by
  rcases h.get i with ⟨h1, h2⟩ | ⟨v, v', h1, h2, hv⟩
  · simp only [Array.getD_eq_getD_getElem?, h1, h2, Option.getD_none]; exact hd
  · simp only [Array.getD_eq_getD_getElem?, h1, h2, Option.getD_some]; exact hv
theorem rel_undef : RelV ρ undef undef := RelR.tuple .empty
theorem RelF.eval (h : RelF P Gl Al ρ fr fr') (hs : Sit L P Gl Al Sh ρ w w') : RelE ρ Gl Al fr.eval fr'.eval := fun x hx => by
  cases x with
  | tmp t => exact h.tmps.getD t rel_undef
  | const v => exact flatC_rel hx
  | global g => exact .ptr ⟨(hs.gl g hx).1, rfl, rfl, fun _ => rfl, by show ρ.lo g ≤ 0 + 1; rw [(hs.gl g hx).2]; omega⟩
  | func f => exact .func f (by rw [hs.hA]; exact hx) rfl (fun i v v' k => by simp at k) rfl (fun i v v' k => by simp at k)
theorem yielded_same (h : RelR ρ fr.tmps fr'.tmps) (ops : Array Oper) : yielded ops fr.tmps = yielded ops fr'.tmps := by
  funext j
  unfold yielded
  cases hd : (ops[j]?).bind (·.dst) with
  | none => rfl
  | some d =>
    rcases h.get d with ⟨h1, h2⟩ | ⟨v, v', h1, h2, hv⟩
    · simp [h1, h2]
    · simp only [Option.bind_some, h1, h2]
      cases hv <;> rfl
theorem seen_sub (fn : FuncId) (es : Array Event) {e : Event} (h : e ∈ seen P fn es) : e ∈ es := by
  have key : ∀ (l : List Event) (q : Bool) (kept : Array Event), ∀ e ∈ (l.foldl (fun (x : Bool × Array Event) e => match e.loc with | .mark (.extern f) => ((P.funcs[f]?).any (·.norace), x.2) | _ => (x.1, if x.1 && !e.sync then x.2 else x.2.push e)) (q, kept)).2, e ∈ kept ∨ e ∈ l := by
    intro l
    induction l with
    | nil => intro q kept e he; exact .inl he
    | cons a l ih =>
      intro q kept e he
      rw [List.foldl_cons] at he
      split at he
      · exact (ih _ _ e he).imp id fun h => List.mem_cons_of_mem _ h
      · rcases ih _ _ e he with h | h
        · split at h
          · exact .inl h
          · rcases Array.mem_push.1 h with h | h
            · exact .inl h
            · exact .inr (by rw [h]; exact List.mem_cons_self)
        · exact .inr (List.mem_cons_of_mem _ h)
  unfold seen at h
  dsimp only at h
  rw [← Array.foldl_toList] at h
  have := key es.toList ((P.funcs[fn]?).any (·.norace)) #[] e h
  simpa using this
end
end Go.Proofs.YthjapmdikbmmkaaDoor
