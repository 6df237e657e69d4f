/-
  A part of the proof.
-/
import Derived.Test.YtnpffnhiefgglaaGreatDoorParw03
namespace Go.Proofs.YtnpffnhiefgglaaGreatDoor
open Go
set_option maxRecDepth 100000
section
variable {Pg P : Program} [Kin Pg P] {ρ : Ren}
def idxEnd (t : TypeId) (k : IntKind) (i : Int) (base : Option Addr) (len : Nat) (elem : TypeId) : Sem Value := do
  let tiny := len ≤ 1 && (match ← underlying t with | .array .. => true | _ => false)
  match base with
  | some a =>
    if 0 ≤ i ∧ i < len then pure (.pointer (some (a.add (i.toNat * (← sizeOf elem)))))
    else if tiny then unsupported (.noEntry "op/indexAddr.an index out of range at an array of length 0 or 1 (ledger 616)")
    else boundsPanic k i len .index
  | none => boundsPanic k i 0 .index
theorem sim_idxNone (t : TypeId) (k : IntKind) (i : Int) (len : Nat) (elem : TypeId) (s' : Sem Value) : SimS Pg P RelV ρ (idxEnd t k i none len elem) s' := .dd (dead_bind (tame_underlying _) fun _ => dead_boundsPanic _ _ _ _)
theorem sim_idxSome (t : TypeId) (k : IntKind) (i : Int) {u u' : Addr} (hu : RelA ρ u u') (len : Nat) (elem : TypeId) : SimS Pg P RelV ρ (idxEnd t k i (some u) len elem) (idxEnd t k i (some u') len elem) := by
  unfold idxEnd
  refine (sim_underlying t).bd fun ρ3 d d' hle3 hd => ?_
  obtain rfl : d = d' := hd
  dsimp only
  split
  · refine (sim_sizeOf elem).bd fun ρ4 s s' hle4 hs => ?_
    obtain rfl : s = s' := hs
    exact .pr (.ptr (((hu.mono hle3).mono hle4).add _))
  · refine .dd ?_
    split <;> split <;> first | exact dead_unsupported _ | exact dead_boundsPanic _ _ _ _
theorem sim_indexAt {t : TypeId} {x x' i i' : Value} (hx : RelV ρ x x') (hi : RelV ρ i i') : SimS Pg P RelV ρ (Instr.indexAt t x i) (Instr.indexAt t x' i') := by
  unfold Instr.indexAt
  refine (sim_asIntOf hi).bd fun ρ1 n n' hle hn => ?_
  obtain rfl : n = n' := hn
  obtain ⟨k, n⟩ := n
  refine (sim_underlying t).bd fun ρ2 d d' hle2 hd => ?_
  obtain rfl : d = d' := hd
  replace hx := (hx.mono hle).mono hle2
  cases d with
  | array len elem => exact (sim_sureAddr hx).bd fun ρ3 u u' _ hu => sim_idxSome t k n hu len elem
  | slice elem =>
    cases hx with
    | sliceNil => exact sim_idxNone t k n 0 elem _
    | slice len c h => exact sim_idxSome t k n h len elem
    | _ => exact .dd (dead_left (dead_stuck _))
  | _ => exact .dd (dead_left (dead_stuck _))
theorem sim_part {t : TypeId} {x x' : Array Value} (hx : RelR ρ x x') (off : Nat) : SimS Pg P RelV ρ (part t x off) (part t x' off) := by
  unfold part
  refine (sim_isAgg t).bd fun ρ1 b b' hle hb => ?_
  obtain rfl : b = b' := hb
  replace hx := hx.mono hle
  cases b
  · rcases hx.get off with ⟨h1, h2⟩ | ⟨v, v', h1, h2, hv⟩
    · simp only [h1, h2]
      exact .dd (dead_stuck _)
    · simp only [h1, h2]
      exact .pr hv
  · refine (sim_sizeOf t).bd fun ρ2 s s' hle2 hs => ?_
    obtain rfl : s = s' := hs
    exact .pr ((hx.mono hle2).extract _ _).agg
theorem sim_index {t : TypeId} {x x' i i' : Value} (hx : RelV ρ x x') (hi : RelV ρ i i') : SimS Pg P RelV ρ (Instr.index t x i) (Instr.index t x' i') := by
  unfold Instr.index
  refine (sim_asIntOf hi).bd fun ρ1 n n' hle hn => ?_
  obtain rfl : n = n' := hn
  obtain ⟨k, n⟩ := n
  refine (sim_underlying t).bd fun ρ2 d d' hle2 hd => ?_
  obtain rfl : d = d' := hd
  replace hx := (hx.mono hle).mono hle2
  cases hx with
  | @agg x x' hs h =>
    cases d
    all_goals first
      | exact .dd (dead_stuck _)
      | (dsimp only
         split
         · refine (sim_sizeOf _).bd fun ρ3 s s' hle3 hs' => ?_
           obtain rfl : s = s' := hs'
           exact sim_part ((show RelR _ x x' from ⟨hs, h⟩).mono hle3) _
         · exact .dd (dead_boundsPanic _ _ _ _))
  | string s =>
    cases d
    all_goals first
      | exact .dd (dead_stuck _)
      | (dsimp only
         split
         · exact .pr (.int _ _)
         · exact .dd (dead_boundsPanic _ _ _ _))
  | _ => cases d <;> exact .dd (dead_stuck _)
theorem sim_extract {x x' : Value} (hx : RelV ρ x x') (i : Nat) : SimS Pg P RelV ρ (Instr.extract x i) (Instr.extract x' i) := by
  unfold Instr.extract
  cases hx with
  | @tuple x x' hs h =>
    rcases (show RelR ρ x x' from ⟨hs, h⟩).get i with ⟨h1, h2⟩ | ⟨v, v', h1, h2, hv⟩
    · simp only [h1, h2]
      exact .dd (dead_stuck _)
    · simp only [h1, h2]
      exact .pr hv
  | _ => exact .dd (dead_stuck _)
theorem sim_sliceBound {v v' : Value} (h : RelV ρ v v') (y : Nat) (c : BoundsCode) : SimS Pg P (fun _ a b => a = b ∧ a ≤ y) ρ (Instr.sliceBound v y c) (Instr.sliceBound v' y c) := by
  unfold Instr.sliceBound
  refine (sim_asIntOf h).bd fun ρ1 n n' hle hn => ?_
  obtain rfl : n = n' := hn
  dsimp only
  split
  · rename_i hb
    exact .pr ⟨rfl, by omega⟩
  · exact .dd (dead_boundsPanic _ _ _ _)
def RelM (ρ : Ren) (a b : Option Value) : Prop := (a = none ∧ b = none) ∨ ∃ v v', a = some v ∧ b = some v' ∧ RelV ρ v v'
theorem RelM.mono {ρ ρ' : Ren} (hle : ρ.le ρ') {a b : Option Value} (h : RelM ρ a b) : RelM ρ' a b := h.imp id fun ⟨v, v', h1, h2, h3⟩ => ⟨v, v', h1, h2, h3.mono hle⟩
theorem sim_sliceBounds {lo lo' hi hi' mx mx' : Option Value} (h1 : RelM ρ lo lo') (h2 : RelM ρ hi hi') (h3 : RelM ρ mx mx') (sl : Bool) (n c : Nat) : SimS Pg P (fun _ a b => a = b ∧ a.2.2 ≤ c ∧ (a.2.1 ≤ a.2.2 ∨ a.2.1 = n)) ρ (Instr.sliceBounds sl n c lo hi mx) (Instr.sliceBounds sl n c lo' hi' mx') := by
  unfold Instr.sliceBounds
  have B : ∀ {ρ' : Ren} {v v' : Value}, RelV ρ v v' → ρ.le ρ' → ∀ y c, SimS Pg P (fun _ a b => a = b ∧ a ≤ y) ρ' (Instr.sliceBound v y c) (Instr.sliceBound v' y c) := fun h hle y c => sim_sliceBound (h.mono hle) y c
  rcases h3 with ⟨rfl, rfl⟩ | ⟨u, u', rfl, rfl, r3⟩
  · rcases h2 with ⟨rfl, rfl⟩ | ⟨v, v', rfl, rfl, r2⟩
    · rcases h1 with ⟨rfl, rfl⟩ | ⟨z, z', rfl, rfl, r1⟩
      · exact .pr ⟨rfl, Nat.le_refl _, .inr rfl⟩
      · refine (B r1 (.refl _) _ _).bd fun ρ1 m m' hle hm => ?_
        obtain ⟨rfl, _⟩ := hm
        exact .pr ⟨rfl, Nat.le_refl _, .inr rfl⟩
    · refine (B r2 (.refl _) _ _).bd fun ρ1 m m' hle hm => ?_
      obtain ⟨rfl, hm⟩ := hm
      rcases h1 with ⟨rfl, rfl⟩ | ⟨z, z', rfl, rfl, r1⟩
      · exact .pr ⟨rfl, Nat.le_refl _, .inl hm⟩
      · refine (B r1 hle _ _).bd fun ρ2 k k' hle2 hk => ?_
        obtain ⟨rfl, _⟩ := hk
        exact .pr ⟨rfl, Nat.le_refl _, .inl hm⟩
  · refine (B r3 (.refl _) _ _).bd fun ρ0 q q' hle0 hq => ?_
    obtain ⟨rfl, hq⟩ := hq
    rcases h2 with ⟨rfl, rfl⟩ | ⟨v, v', rfl, rfl, r2⟩
    · exact .dd (dead_left (dead_stuck _))
    · refine (B r2 hle0 _ _).bd fun ρ1 m m' hle hm => ?_
      obtain ⟨rfl, hm⟩ := hm
      rcases h1 with ⟨rfl, rfl⟩ | ⟨z, z', rfl, rfl, r1⟩
      · exact .pr ⟨rfl, hq, .inl hm⟩
      · refine (B r1 (hle0.trans hle) _ _).bd fun ρ2 k k' hle2 hk => ?_
        obtain ⟨rfl, _⟩ := hk
        exact .pr ⟨rfl, hq, .inl hm⟩
theorem sim_slice {t : TypeId} {x x' : Value} {lo lo' hi hi' mx mx' : Option Value} (hx : RelV ρ x x') (h1 : RelM ρ lo lo') (h2 : RelM ρ hi hi') (h3 : RelM ρ mx mx') : SimS Pg P RelV ρ (Instr.slice t x lo hi mx) (Instr.slice t x' lo' hi' mx') := by
  unfold Instr.slice
  refine (sim_underlying t).bd fun ρ1 d d' hle hd => ?_
  obtain rfl : d = d' := hd
  replace hx := hx.mono hle
  replace h1 := h1.mono hle
  replace h2 := h2.mono hle
  replace h3 := h3.mono hle
  have arr : ∀ {a a' : Addr} (arr : TypeId), RelA ρ1 a a' → SimS Pg P RelV ρ1 (do
      let .array n elem ← underlying arr | stuck "Slice: array type expected"
      let (l, h, m) ← Instr.sliceBounds false n n lo hi mx
      let size ← sizeOf elem
      pure (.slice (some (if m = l then a else a.add (l * size))) (h - l) (m - l))) (do
      let .array n elem ← underlying arr | stuck "Slice: array type expected"
      let (l, h, m) ← Instr.sliceBounds false n n lo' hi' mx'
      let size ← sizeOf elem
      pure (.slice (some (if m = l then a' else a'.add (l * size))) (h - l) (m - l))) := by
    intro a a' arr h
    refine (sim_underlying arr).bd fun ρ2 d d' hle2 hd => ?_
    obtain rfl : d = d' := hd
    cases d
    all_goals first
      | exact .dd (dead_stuck _)
      | (refine (sim_sliceBounds (h1.mono hle2) (h2.mono hle2) (h3.mono hle2) _ _ _).bd fun ρ3 q q' hle3 hq => ?_
         obtain ⟨rfl, _⟩ := hq
         refine (sim_sizeOf _).bd fun ρ4 s s' hle4 hs => ?_
         obtain rfl : s = s' := hs
         refine .pr (.slice _ _ ?_)
         split
         · exact ((h.mono hle2).mono hle3).mono hle4
         · exact (((h.mono hle2).mono hle3).mono hle4).add _)
  cases hx with
  | string s =>
    cases d
    all_goals first
      | exact .dd (dead_stuck _)
      | exact .dd (dead_left (dead_stuck _))
      | (rcases h3 with ⟨rfl, rfl⟩ | ⟨u, u', rfl, rfl, _⟩
         · refine (sim_sliceBounds h1 h2 (.inl ⟨rfl, rfl⟩) _ _ _).bd fun ρ3 q q' hle3 hq => ?_
           obtain ⟨rfl, _⟩ := hq
           exact .pr (.string _)
         · exact .dd (dead_left (dead_stuck _)))
  | sliceNil =>
    cases d
    all_goals first
      | exact .dd (dead_stuck _)
      | exact .dd (dead_left (dead_stuck _))
      | (refine (sim_sliceBounds h1 h2 h3 _ _ _).bd fun ρ3 q q' hle3 hq => ?_
         obtain ⟨rfl, hq1, hq2⟩ := hq
         refine (sim_sizeOf _).bd fun ρ4 s s' hle4 hs => ?_
         obtain rfl : s = s' := hs
         obtain ⟨l, h, m⟩ := q
         simp only at hq1 hq2
         have e1 : h - l = 0 := by omega
         have e2 : m - l = 0 := by omega
         refine .pr ?_
         dsimp only
         rw [e1, e2]
         split
         · exact .sliceNil
         · exact .sliceNil)
  | slice n c h =>
    cases d
    all_goals first
      | exact .dd (dead_stuck _)
      | exact .dd (dead_left (dead_stuck _))
      | (refine (sim_sliceBounds h1 h2 h3 _ _ _).bd fun ρ3 q q' hle3 hq => ?_
         obtain ⟨rfl, _⟩ := hq
         refine (sim_sizeOf _).bd fun ρ4 s s' hle4 hs => ?_
         obtain rfl : s = s' := hs
         refine .pr ?_
         split
         · exact .slice _ _ ((h.mono hle3).mono hle4)
         · exact .slice _ _ (((h.mono hle3).mono hle4).add _))
  | ptr h =>
    cases d
    all_goals first
      | exact .dd (dead_stuck _)
      | exact arr _ h
  | ptrNil =>
    cases d
    all_goals first
      | exact .dd (dead_stuck _)
      | exact .dd (dead_left (show Dead Pg (runtimePanic .nilDeref : Sem Addr) from dead_runtimePanic _))
  | _ =>
    cases d
    all_goals first
      | exact .dd (dead_stuck _)
      | exact .dd (dead_left (dead_stuck _))
theorem sim_sliceAt {t : TypeId} {x x' : Value} {lo lo' hi hi' mx mx' : Option Value} (hx : RelV ρ x x') (h1 : RelM ρ lo lo') (h2 : RelM ρ hi hi') (h3 : RelM ρ mx mx') : SimS Pg P RelV ρ (Instr.sliceAt t x lo hi mx) (Instr.sliceAt t x' lo' hi' mx') := by
  unfold Instr.sliceAt
  refine (sim_underlying t).bd fun ρ1 d d' hle hd => ?_
  obtain rfl : d = d' := hd
  replace hx := hx.mono hle
  replace h1 := h1.mono hle
  replace h2 := h2.mono hle
  replace h3 := h3.mono hle
  cases d
  all_goals first
    | exact sim_slice hx h1 h2 h3
    | (refine (sim_sureAddr hx).bd fun ρ2 a a' hle2 ha => ?_
       refine (sim_sliceBounds (h1.mono hle2) (h2.mono hle2) (h3.mono hle2) _ _ _).bd fun ρ3 q q' hle3 hq => ?_
       obtain ⟨rfl, _⟩ := hq
       refine (sim_sizeOf _).bd fun ρ4 s s' hle4 hs => ?_
       obtain rfl : s = s' := hs
       refine .pr (.slice _ _ ?_)
       split
       · exact (ha.mono hle3).mono hle4
       · exact ((ha.mono hle3).mono hle4).add _)
end
section
variable {Pg P : Program} [Kin Pg P] {ρ : Ren}
theorem RelR.list {x x' : Array Value} (h : RelR ρ x x') : RelR ρ x.toList.toArray x'.toList.toArray := by simpa using h
theorem sim_askRoom (n : Nat) : SimS Pg P Same ρ (askRoom n) (askRoom n) := by
  unfold askRoom
  split
  · exact .room (.pure rfl)
  · exact .pr rfl
theorem RelR.fill {z z' : Array Value} (h : RelR ρ z z') (n : Nat) : RelR ρ ((Array.range n).map (z[· % z.size]!)) ((Array.range n).map (z'[· % z'.size]!)) := by
  refine ⟨by simp, fun i v v' h1 h2 => ?_⟩
  simp only [Array.getElem?_map, Array.getElem?_range] at h1 h2
  split at h1
  · rename_i hi
    rw [if_pos hi] at h2
    simp only [Option.map_some, Option.some.injEq] at h1 h2
    rw [← h.1] at h2
    subst h1 h2
    rcases h.get (i % z.size) with ⟨k1, k2⟩ | ⟨u, u', k1, k2, hu⟩
    · simp only [getElem!_def, k1, k2]
      exact .bool _
    · simp only [getElem!_def, k1, k2]
      exact hu
  · cases h1
theorem sim_underlyingP (t : TypeId) : SimS Pg P (fun _ a b => a = b ∧ P.underlying t = some a) ρ (underlying t) (underlying t) := by
  refine .program ?_
  show SimS Pg P _ ρ (match Pg.underlying t with | some i => Pure.pure i | none => stuck "no such type") (match P.underlying t with | some i => Pure.pure i | none => stuck "no such type")
  rw [kin_underlying (Pg := Pg) (P := P) t]
  cases h : P.underlying t with
  | none => exact .dd (dead_stuck _)
  | some i => exact .pr ⟨rfl, rfl⟩
theorem sim_makeSlice {t : TypeId} {l l' c c' : Value} (hE : okElem P t = true) (hl : RelV ρ l l') (hc : RelV ρ c c') : SimS Pg P RelV ρ (Instr.makeSlice t l c) (Instr.makeSlice t l' c') := by
  unfold Instr.makeSlice
  refine (sim_underlyingP t).bd fun ρ1 d d' hle hd => ?_
  obtain ⟨rfl, hd⟩ := hd
  cases d with
  | slice elem =>
    have hz0 : okZero P elem = true := by simpa [okElem, hd] using hE
    refine (sim_asInt (hl.mono hle)).bd fun ρ2 n n' hle2 hn => ?_
    obtain rfl : n = n' := hn
    refine (sim_asInt ((hc.mono hle).mono hle2)).bd fun ρ3 m m' hle3 hm => ?_
    obtain rfl : m = m' := hm
    refine (sim_typeInfo elem).bd fun ρ4 i i' hle4 hi => ?_
    obtain ⟨rfl, _⟩ := hi
    dsimp only
    split
    · refine .dd ?_
      split
      · exact dead_left (dead_runtimePanic _)
      · split
        · exact dead_left (dead_runtimePanic _)
        · exact dead_bind (tame_choose _) fun _ => dead_left (dead_runtimePanic _)
    · refine (sim_askRoom _).bd fun ρ5 _ _ hle5 _ => ?_
      refine (sim_sizeOf elem).bd fun ρ6 s s' hle6 hs => ?_
      obtain rfl : s = s' := hs
      split
      · exact (sim_newRow elem (RelR.fill .empty _)).bd fun ρ7 a a' hle7 ha => .pr (.slice _ _ ha)
      · refine (sim_zeroValue hz0).bd fun ρ7 z z' hle7 hz => ?_
        exact (sim_newRow elem (hz.cells.fill _)).bd fun ρ8 a a' hle8 ha => .pr (.slice _ _ ha)
  | _ => exact .dd (dead_stuck _)
theorem sim_firstCells {x x' : Value} (hx : RelV ρ x x') (s n : Nat) : SimS Pg P RelR ρ (Builtin.firstCells s n x) (Builtin.firstCells s n x') := by
  cases hx with
  | sliceNil => exact .pr .empty
  | slice m c h => exact sim_loadCells h _
  | string b => exact .pr ⟨rfl, fun i v v' h1 h2 => by
      rw [h1] at h2
      cases h2
      simp only [Array.getElem?_map, Option.map_eq_some_iff] at h1
      obtain ⟨u, _, rfl⟩ := h1
      exact .int _ _⟩
  | _ => exact .dd (dead_stuck _)
theorem sim_lenOf {x x' : Value} (hx : RelV ρ x x') : SimS Pg P Same ρ (Builtin.lenOf x) (Builtin.lenOf x') := by
  cases hx <;> first | exact .pr rfl | exact .dd (dead_stuck _)
theorem RelR.zeros {z z' : Array Value} (h : RelR ρ z z') (n : Nat) : RelR ρ (Builtin.zeroCells z n) (Builtin.zeroCells z' n) := by
  unfold Builtin.zeroCells
  rw [← h.1]
  have := h.fill (n * z.size)
  rwa [← h.1] at this
theorem tame_holds (a : Addr) (n : Nat) : TameS Pg (Builtin.holdsCells a n) := tame_bind (tame_shape _) fun s => by
  split <;> exact tame_pure _
theorem tame_mayShare (s l n : Nat) (b : Option Addr) (x : Value) : TameS Pg (Builtin.mayShare s l n b x) := by
  have t : ∀ c : Bool, TameS Pg (if (!c) = true then Pure.pure true else (match x with | .slice (some b') _ _ => (do Pure.pure (!(← Builtin.holdsCells b' (n * s)) || b.any (·.block == b'.block))) | _ => Pure.pure false) : Sem Bool) := by
    intro c
    split
    · exact tame_pure _
    · split
      · exact tame_bind (tame_holds _ _) fun _ => tame_pure _
      · exact tame_pure _
  unfold Builtin.mayShare
  cases b with
  | none => exact tame_bind (tame_pure _) t
  | some a => exact tame_bind (tame_holds _ _) fun _ => tame_bind (tame_frozen _) fun _ => tame_bind (tame_pure _) t
def appNew (elem : TypeId) (size n c m : Nat) (s x : Value) : Sem Value := do
  let newCap ← choose (.appendCap (n + m) c elem)
  let i ← typeInfo elem
  askRoom (newCap * i.bytes)
  let old ← Builtin.firstCells size n s
  let new ← Builtin.firstCells size m x
  let z ← zeroValue elem
  let a ← newRow elem (old ++ new ++ Builtin.zeroCells z.cells (newCap - (n + m)))
  pure (.slice (some a) (n + m) newCap)
theorem sim_appNew {elem : TypeId} (hz0 : okZero P elem = true) (size n c m : Nat) {s s' x x' : Value} (hs : RelV ρ s s') (hx : RelV ρ x x') : SimS Pg P RelV ρ (appNew elem size n c m s x) (appNew elem size n c m s' x') := by
  refine SimS.bd (Q := Same) (.choose _ fun _ => .pure rfl) fun ρ1 q q' hle hq => ?_
  obtain rfl : q = q' := hq
  refine (sim_typeInfo elem).bd fun ρ2 i i' hle2 hi => ?_
  obtain ⟨rfl, _⟩ := hi
  refine (sim_askRoom _).bd fun ρ3 _ _ hle3 _ => ?_
  refine (sim_firstCells (((hs.mono hle).mono hle2).mono hle3) size n).bd fun ρ4 o o' hle4 ho => ?_
  refine (sim_firstCells ((((hx.mono hle).mono hle2).mono hle3).mono hle4) size m).bd fun ρ5 e e' hle5 he => ?_
  refine (sim_zeroValue hz0).bd fun ρ6 z z' hle6 hz => ?_
  exact (sim_newRow elem ((((ho.mono hle5).mono hle6).append (he.mono hle6)).append (hz.cells.zeros _))).bd fun ρ7 a a' _ ha => .pr (.slice _ _ ha)
def appEnd (elem : TypeId) (size : Nat) (base : Option Addr) (n c : Nat) (x : Value) (m : Nat) : Sem Value :=
  if n + m ≤ c then do
    let new ← Builtin.firstCells size m x
    match base with
    | some a => do
      let _ ← storeCells (a.add (n * size)) new.toList
      pure (.slice base (n + m) c)
    | none => pure (.slice base (n + m) c)
  else do
    let i ← typeInfo elem
    let big : Unit → Sem Value := fun _ => do
      let j ← typeInfo elem
      if Builtin.nextslicecap (n + m) c * j.bytes > 2 ^ 48 then do
        let r ← (do
          let sh ← Builtin.mayShare size n m base x
          if !sh then do
            let _ ← mark .noRoom
            unsupported (.resourceLimit "append: a slice or a string whose bytes no memory bears")
          else unsupported (.resourceLimit "append: a slice or a string whose bytes no memory bears") : Sem Unit)
        let _ := r
        appNew elem size n c m (.slice base n c) x
      else appNew elem size n c m (.slice base n c) x
    if ((n + m : Nat) : Int) > IntKind.i64.max ∧ (false = true ∨ i.bytes = 0) then do
      let r ← runtimePanic (.error "growslice: len out of range")
      big r
    else big ()
theorem sim_appEnd {elem : TypeId} (hz0 : okZero P elem = true) (size n c m : Nat) {base base' : Option Addr} {x x' : Value} (hb : (base = none ∧ base' = none ∧ n = 0 ∧ c = 0) ∨ ∃ a a', base = some a ∧ base' = some a' ∧ RelA ρ a a') (hx : RelV ρ x x') : SimS Pg P RelV ρ (appEnd elem size base n c x m) (appEnd elem size base' n c x' m) := by
  have hs : RelV ρ (.slice base n c) (.slice base' n c) := by
    rcases hb with ⟨rfl, rfl, rfl, rfl⟩ | ⟨a, a', rfl, rfl, ha⟩
    · exact .sliceNil
    · exact .slice n c ha
  unfold appEnd
  split
  · rename_i hnm
    refine (sim_firstCells hx size m).bd fun ρ1 e e' hle he => ?_
    rcases hb with ⟨rfl, rfl, rfl, rfl⟩ | ⟨a, a', rfl, rfl, ha⟩
    · obtain rfl : m = 0 := by omega
      exact .pr .sliceNil
    · refine (sim_storeCells _ ((ha.mono hle).add _) _ 0 he.list).bd fun ρ2 _ _ hle2 _ => ?_
      exact .pr (.slice _ _ ((ha.mono hle).mono hle2))
  · refine (sim_typeInfo elem).bd fun ρ1 i i' hle hi => ?_
    obtain ⟨rfl, _⟩ := hi
    dsimp only
    split
    · exact .dd (dead_left (dead_runtimePanic _))
    · refine (sim_typeInfo elem).bd fun ρ2 j j' hle2 hj => ?_
      obtain ⟨rfl, _⟩ := hj
      split
      · refine .dd (dead_left (dead_bind (tame_mayShare _ _ _ _ _) fun sh => ?_))
        split
        · exact dead_bind (tame_mark _) fun _ => dead_unsupported _
        · exact dead_unsupported _
      · exact sim_appNew hz0 size n c m ((hs.mono hle).mono hle2) ((hx.mono hle).mono hle2)
theorem sim_append {t u ty : TypeId} (hE : okElem P t = true) (hu : ∀ k, P.underlying u ≠ some (.int k)) {s s' x x' : Value} (hs : RelV ρ s s') (hx : RelV ρ x x') : SimS Pg P RelV ρ (Builtin.append_ #[t, u] ty #[s, x]) (Builtin.append_ #[t, u] ty #[s', x']) := by
  unfold Builtin.append_
  refine (sim_underlyingP t).bd fun ρ1 d d' hle hd => ?_
  obtain ⟨rfl, hd⟩ := hd
  cases d with
  | slice elem =>
    have hz0 : okZero P elem = true := by simpa [okElem, hd] using hE
    cases hs with
    | sliceNil =>
      refine (sim_sizeOf elem).bd fun ρ2 z z' hle2 hz => ?_
      obtain rfl : z = z' := hz
      refine (sim_underlyingP u).bd fun ρ3 e e' hle3 he => ?_
      obtain ⟨rfl, he⟩ := he
      have hx3 := ((hx.mono hle).mono hle2).mono hle3
      cases e with
      | int k => exact absurd he (hu k)
      | _ =>
        refine (sim_lenOf hx3).bd fun ρ4 m m' hle4 hm => ?_
        obtain rfl : m = m' := hm
        exact sim_appEnd hz0 z 0 0 m (.inl ⟨rfl, rfl, rfl, rfl⟩) (hx3.mono hle4)
    | slice n c h =>
      refine (sim_sizeOf elem).bd fun ρ2 z z' hle2 hz => ?_
      obtain rfl : z = z' := hz
      refine (sim_underlyingP u).bd fun ρ3 e e' hle3 he => ?_
      obtain ⟨rfl, he⟩ := he
      have hx3 := ((hx.mono hle).mono hle2).mono hle3
      have h3 := ((h.mono hle).mono hle2).mono hle3
      cases e with
      | int k => exact absurd he (hu k)
      | _ =>
        refine (sim_lenOf hx3).bd fun ρ4 m m' hle4 hm => ?_
        obtain rfl : m = m' := hm
        exact sim_appEnd hz0 z n c m (.inr ⟨_, _, rfl, rfl, h3.mono hle4⟩) (hx3.mono hle4)
    | _ => exact .dd (dead_stuck _)
  | _ => exact .dd (dead_stuck _)
theorem sim_len {t ty : TypeId} {x x' : Value} (hx : RelV ρ x x') : SimS Pg P RelV ρ (Builtin.len_ #[t] ty #[x]) (Builtin.len_ #[t] ty #[x']) := by
  unfold Builtin.len_
  refine (sim_underlying t).bd fun ρ1 d d' hle hd => ?_
  obtain rfl : d = d' := hd
  replace hx := hx.mono hle
  cases d with
  | pointer arr =>
    refine (sim_underlying arr).bd fun ρ2 e e' hle2 he => ?_
    obtain rfl : e = e' := he
    cases e <;> first | exact .pr (.int _ _) | exact .dd (dead_stuck _)
  | array n e => exact .pr (.int _ _)
  | _ => cases hx <;> first | exact .pr (.int _ _) | exact .dd (dead_stuck _)
theorem sim_min2 {x x' y y' : Value} (hx : RelV ρ x x') (hy : RelV ρ y y') : SimS Pg P RelV ρ (Builtin.min2 x y) (Builtin.min2 x' y') := by
  cases hx <;> cases hy
  all_goals first
    | exact .pr (.int _ _)
    | exact .dd (dead_stuck _)
    | exact .dd (dead_unsupported _)
    | (refine (sim_stringOp .leq _ _).bd fun ρ1 v v' hle hv => ?_
       refine (sim_asBool hv).bd fun ρ2 b b' hle2 hb => ?_
       obtain rfl : b = b' := hb
       exact .pr (.string _))
theorem sim_min {ts : Array TypeId} {ty : TypeId} {x x' y y' : Value} (hx : RelV ρ x x') (hy : RelV ρ y y') : SimS Pg P RelV ρ (Builtin.min_ ts ty #[x, y]) (Builtin.min_ ts ty #[x', y']) :=
  (sim_min2 hx hy).bd fun _ _ _ _ hv => .pr hv
theorem sim_convert {src dst : TypeId} {k k' : IntKind} (h1 : P.underlying src = some (.int k)) (h2 : P.underlying dst = some (.int k')) {x x' : Value} (hx : RelV ρ x x') : SimS Pg P RelV ρ (convert src dst x) (convert src dst x') := by
  unfold convert
  refine (sim_underlyingP src).bd fun ρ1 d d' hle hd => ?_
  obtain ⟨rfl, hd⟩ := hd
  refine (sim_underlyingP dst).bd fun ρ2 e e' hle2 he => ?_
  obtain ⟨rfl, he⟩ := he
  rw [h1] at hd
  rw [h2] at he
  cases hd
  cases he
  cases (hx.mono hle).mono hle2
  all_goals first
    | exact .pr (.int _ _)
    | exact .dd (dead_unsupported _)
end
section
variable {Pg P : Program} [Kin Pg P] {ρ : Ren}
theorem sim_mapSame {α β : Type} (g : α → Sem β) (hg : ∀ {ρ : Ren} (a : α), SimS Pg P Same ρ (g a) (g a)) (l : List α) : ∀ {ρ : Ren}, SimS Pg P Same ρ (l.mapM g) (l.mapM g) := by
  induction l with
  | nil => intro ρ; exact .pr rfl
  | cons a l ih =>
    intro ρ
    rw [List.mapM_cons]
    refine (hg a).bd fun ρ1 x x' _ hx => ?_
    obtain rfl : x = x' := hx
    refine ih.bd fun ρ2 y y' _ hy => ?_
    obtain rfl : y = y' := hy
    exact .pr rfl
def fullField (P : Program) (s : TypeId) (f : Nat) : Bool :=
  match P.underlying s with
  | some (.struct fs) => (match fs[f]? with | some fl => (match P.info? fl.type with | some i => i.size != 0 | none => true) | none => true)
  | _ => true
theorem sim_sizeOfP (t : TypeId) : SimS Pg P (fun _ a b => a = b ∧ ∃ i, P.info? t = some i ∧ i.size = a) ρ (sizeOf t) (sizeOf t) := (sim_typeInfo t).bd fun _ a b _ h => by
  obtain ⟨rfl, h⟩ := h
  exact .pr ⟨rfl, a, h, rfl⟩
theorem sim_fieldAt (s : TypeId) {x x' : Value} (hx : RelV ρ x x') (f : Nat) (hfull : fullField P s f = true) : SimS Pg P RelV ρ (Instr.fieldAt s x f) (Instr.fieldAt s x' f) := by
  unfold Instr.fieldAt
  refine (sim_underlyingP s).bd fun ρ1 d d' hle hd => ?_
  obtain ⟨rfl, hd⟩ := hd
  cases d with
  | struct fields =>
    dsimp only
    cases hfl : fields[f]? with
    | none => exact .dd (dead_stuck _)
    | some fl =>
      refine (sim_sureAddr (hx.mono hle)).bd fun ρ2 a a' hle2 ha => ?_
      refine SimS.bd (Q := RelA) ?_ fun ρ3 u u' _ hu => .pr (.ptr hu)
      unfold fieldPlace
      refine (sim_sizeOfP _).bd fun ρ3 n n' hle3 hn => ?_
      obtain ⟨rfl, i, hi, rfl⟩ := hn
      split
      · rename_i h0
        simp [fullField, hd, hfl, hi, h0] at hfull
      · exact .pr ((ha.mono hle3).add _)
  | _ => exact .dd (dead_stuck _)
theorem sim_cap {t ty : TypeId} {x x' : Value} (ht : (match P.underlying t with | some (.chan _ _) => false | _ => true) = true) (hx : RelV ρ x x') : SimS Pg P RelV ρ (Builtin.cap_ #[t] ty #[x]) (Builtin.cap_ #[t] ty #[x']) := by
  unfold Builtin.cap_
  refine (sim_underlyingP t).bd fun ρ1 d d' hle hd => ?_
  obtain ⟨rfl, hd⟩ := hd
  rw [hd] at ht
  replace hx := hx.mono hle
  cases d with
  | pointer arr =>
    refine (sim_underlying arr).bd fun ρ2 e e' hle2 he => ?_
    obtain rfl : e = e' := he
    cases e <;> first | exact .pr (.int _ _) | exact .dd (dead_stuck _)
  | array n e => exact .pr (.int _ _)
  | chan d e => cases ht
  | _ => cases hx <;> first | exact .pr (.int _ _) | exact .dd (dead_stuck _)
theorem sim_makeInterface (t : TypeId) {x x' : Value} (hx : RelV ρ x x') : SimS Pg P RelV ρ (Instr.makeInterface t x) (Instr.makeInterface t x') := by
  unfold Instr.makeInterface
  refine (sim_underlying t).bd fun ρ1 d d' hle hd => ?_
  obtain rfl : d = d' := hd
  cases d <;> first | exact .dd (dead_stuck _) | exact .pr (.iface t (hx.mono hle))
theorem tame_sys (c : Sys) : TameS Pg (sys c) := fun w x w1 e => by cases e
theorem dead_panic (x : Value) : Dead Pg (Instr.panic x) := by
  unfold Instr.panic
  cases x
  case iface => exact dead_goPanic _
  case nilIface =>
    refine dead_bind ?_ fun n => ?_
    · unfold Instr.panicnil
      refine tame_bind (tame_sys _) fun r => ?_
      cases r <;> first
        | exact (dead_stuck (Pg := Pg) _).2
        | exact tame_bind tame_program fun _ => tame_pure _
    · split
      · exact dead_goPanic _
      · exact dead_runtimePanic _
  all_goals exact dead_stuck _
/-! ### literals -/
theorem RelR.puts {c c' x x' : Array Value} (hc : RelR ρ c c') (hx : RelR ρ x x') (off : Nat) : RelR ρ (x.zipIdx.foldl (fun cs (c, j) => cs.setIfInBounds (off + j) c) c) (x'.zipIdx.foldl (fun cs (c, j) => cs.setIfInBounds (off + j) c) c') := by
  obtain ⟨x⟩ := x
  obtain ⟨x'⟩ := x'
  have key : ∀ (l l' : List Value) (k : Nat) (c c' : Array Value), RelR ρ l.toArray l'.toArray → RelR ρ c c' → RelR ρ ((l.zipIdx k).foldl (fun cs (x : Value × Nat) => cs.setIfInBounds (off + x.2) x.1) c) ((l'.zipIdx k).foldl (fun cs (x : Value × Nat) => cs.setIfInBounds (off + x.2) x.1) c') := by
    intro l
    induction l with
    | nil =>
      intro l' k c c' h hc
      have : l' = [] := by have := h.1; simp at this; exact List.length_eq_zero_iff.1 this.symm
      subst this
      exact hc
    | cons a l ih =>
      intro l' k c c' h hc
      cases l' with
      | nil => have := h.1; simp at this
      | cons b l' =>
        rw [List.zipIdx_cons, List.zipIdx_cons, List.foldl_cons, List.foldl_cons]
        refine ih l' (k + 1) _ _ ⟨by have := h.1; simpa using this, fun i v v' h1 h2 => h.2 (i + 1) v v' (by simpa using h1) (by simpa using h2)⟩ (hc.set _ (h.2 0 a b (by simp) (by simp)))
  rw [← Array.foldl_toList, ← Array.foldl_toList, Array.toList_zipIdx, Array.toList_zipIdx]
  exact key x x' 0 c c' hx hc
inductive RelP (ρ : Ren) : List (Nat × Value) → List (Nat × Value) → Prop
  | nil : RelP ρ [] []
  | cons {x y : Nat × Value} {l l' : List (Nat × Value)} (h : x.1 = y.1 ∧ RelV ρ x.2 y.2) (hl : RelP ρ l l') : RelP ρ (x :: l) (y :: l')
theorem RelP.mono {ρ' : Ren} (hle : ρ.le ρ') {l l' : List (Nat × Value)} (h : RelP ρ l l') : RelP ρ' l l' := by
  induction h with
  | nil => exact .nil
  | cons h _ ih => exact .cons ⟨h.1, h.2.mono hle⟩ ih
theorem fill_rel (place : Nat → Option (Nat × Nat)) {l l' : List (Nat × Value)} (h : RelP ρ l l') : ∀ {c c' : Array Value}, RelR ρ c c' → (Instr.fill place c l = none ∧ Instr.fill place c' l' = none) ∨ ∃ d d', Instr.fill place c l = some d ∧ Instr.fill place c' l' = some d' ∧ RelR ρ d d' := by
  induction h with
  | nil => intro c c' hc; exact .inr ⟨c, c', rfl, rfl, hc⟩
  | @cons x y l l' hxy _ ih =>
    intro c c' hc
    obtain ⟨i, v⟩ := x
    obtain ⟨j, v'⟩ := y
    obtain ⟨rfl, hv⟩ := hxy
    simp only at hv
    simp only [Instr.fill]
    cases place i with
    | none => exact .inl ⟨rfl, rfl⟩
    | some os =>
      obtain ⟨off, size⟩ := os
      dsimp only
      have e1 := hv.cells.1
      have e2 := hc.1
      rw [← e1, ← e2]
      split
      · exact .inl ⟨rfl, rfl⟩
      · exact ih (hc.puts hv.cells off)
theorem sim_buildSlice {t : TypeId} (hE : okElem P t = true) (n : Nat) {p p' : Array (Nat × Value)} (hp : RelP ρ p.toList p'.toList) : SimS Pg P RelV ρ (Instr.buildSlice t n p) (Instr.buildSlice t n p') := by
  unfold Instr.buildSlice
  refine (sim_underlyingP t).bd fun ρ1 d d' hle hd => ?_
  obtain ⟨rfl, hd⟩ := hd
  cases d with
  | slice elem =>
    have hz0 : okZero P elem = true := by simpa [okElem, hd] using hE
    refine (sim_sizeOf elem).bd fun ρ2 s s' hle2 hs => ?_
    obtain rfl : s = s' := hs
    dsimp only
    split
    · exact .dd (dead_left (dead_unsupported _))
    · have fin : ∀ {ρ3 : Ren} {z z' : Array Value}, ρ2.le ρ3 → RelR ρ3 z z' → SimS Pg P RelV ρ3 (match Instr.fill (fun i => some (i * s, s)) ((Array.range (n * s)).map (z[· % z.size]!)) p.toList with | some cells => (do Pure.pure (.slice (some (← newRow elem cells)) n n)) | _ => stuck "buildSlice: a part of the wrong size") (match Instr.fill (fun i => some (i * s, s)) ((Array.range (n * s)).map (z'[· % z'.size]!)) p'.toList with | some cells => (do Pure.pure (.slice (some (← newRow elem cells)) n n)) | _ => stuck "buildSlice: a part of the wrong size") := fun {ρ3 z z'} hle3 hz => by
        have hp3 : RelP ρ3 p.toList p'.toList := ((hp.mono hle).mono hle2).mono hle3
        rcases fill_rel (fun i => some (i * s, s)) hp3 (hz.fill (n * s)) with ⟨h1, h2⟩ | ⟨c, c', h1, h2, hc⟩
        · simp only [h1, h2]
          exact .dd (dead_stuck _)
        · simp only [h1, h2]
          exact (sim_newRow elem hc).bd fun _ _ _ _ ha => .pr (.slice n n ha)
      split
      · exact fin (.refl _) .empty
      · exact (sim_zeroValue hz0).bd fun ρ3 v v' hle3 hv => fin hle3 hv.cells
  | _ => exact .dd (dead_stuck _)
theorem sim_build {t : TypeId} (hz0 : okZero P t = true) {p p' : Array (Nat × Value)} (hp : RelP ρ p.toList p'.toList) : SimS Pg P RelV ρ (Instr.build t p) (Instr.build t p') := by
  unfold Instr.build
  refine (sim_zeroValue hz0).bd fun ρ1 z z' hle hz => ?_
  refine (sim_underlying t).bd fun ρ2 d d' hle2 hd => ?_
  obtain rfl : d = d' := hd
  have hz2 := hz.cells.mono hle2
  have hp2 : RelP ρ2 p.toList p'.toList := (hp.mono hle).mono hle2
  cases d with
  | struct fields =>
    dsimp only
    rw [Array.mapM_eq_mapM_toList]
    refine SimS.bd (Q := Same) ?_ fun ρ3 pl pl' hle3 hpl => ?_
    · refine (sim_mapSame _ (fun f => ?_) fields.toList).bd fun _ a b _ hab => ?_
      · refine (sim_sizeOf _).bd fun _ a b _ hab => ?_
        obtain rfl : a = b := hab
        exact .pr rfl
      · obtain rfl : a = b := hab
        exact .pr rfl
    · obtain rfl : pl = pl' := hpl
      rcases fill_rel (pl[·]?) (hp2.mono hle3) (hz2.mono hle3) with ⟨h1, h2⟩ | ⟨c, c', h1, h2, hc⟩
      · simp only [h1, h2]
        exact .dd (dead_stuck _)
      · simp only [h1, h2]
        exact .pr hc.agg
  | array n elem =>
    refine (sim_sizeOf elem).bd fun ρ3 s s' hle3 hs => ?_
    obtain rfl : s = s' := hs
    rcases fill_rel (fun i => some (i * s, s)) (hp2.mono hle3) (hz2.mono hle3) with ⟨h1, h2⟩ | ⟨c, c', h1, h2, hc⟩
    · simp only [h1, h2]
      exact .dd (dead_stuck _)
    · simp only [h1, h2]
      exact .pr hc.agg
  | _ => exact .dd (dead_stuck _)
end
def eqOk (P : Program) (t : TypeId) (y : Operand) : Bool :=
  match P.underlying t with
  | some .bool | some .string | some (.slice _) => true
  | some (.int _) => (match P.info? t with | some i => (match i.desc with | .named "sync.copyChecker" _ => false | _ => true) | none => true)
  | some (.interface _) => (match y with | .const .nilIface => true | _ => false)
  | _ => false
def simpleD (d : TypeDesc) : Bool := match d with | .interface _ | .struct _ | .array _ _ => false | _ => true
section
variable {Pg P : Program} [Kin Pg P] {ρ : Ren}
theorem sim_numbersEq (hG : Fits P ρ) {t : TypeId} (ht : (match P.info? t with | some i => (match i.desc with | .named "sync.copyChecker" _ => false | _ => true) | none => true) = true) {a a' b b' : Addr} (ha : RelA ρ a a') (hb : RelA ρ b b') :
    SimS Pg P Same ρ (do
      let (a, b) := ((← behindNumber a).1, (← behindNumber b).1)
      if a.block == b.block && a.block < (← program).globals.size then return (← byteOf a) == (← byteOf b)
      let .named "sync.copyChecker" _ := (← typeInfo t).desc | unsupported .addressObserved
      if a == b then Pure.pure true else unsupported .addressObserved) (do
      let (a, b) := ((← behindNumber a').1, (← behindNumber b').1)
      if a.block == b.block && a.block < (← program).globals.size then return (← byteOf a) == (← byteOf b)
      let .named "sync.copyChecker" _ := (← typeInfo t).desc | unsupported .addressObserved
      if a == b then Pure.pure true else unsupported .addressObserved) := by
  refine (sim_behindNumber ha).bd fun ρ1 x x' hle hx => ?_
  refine (sim_behindNumber (hb.mono hle)).bd fun ρ2 y y' hle2 hy => ?_
  obtain ⟨x, _⟩ := x
  obtain ⟨x', _⟩ := x'
  obtain ⟨y, _⟩ := y
  obtain ⟨y', _⟩ := y'
  have hx := hx.1.mono hle2
  have hy := hy.1
  simp only at hx hy
  refine SimS.bind (Q := fun _ p q => p.globals.size = P.globals.size ∧ q = P) (.program (.pure ⟨by rw [‹Kin Pg P›.tables], rfl⟩)) fun ρ3 p p' hle3 hp => ?_
  obtain ⟨h1, rfl⟩ := hp
  have hG3 : ρ3.G = p'.globals.size := (hG.mono (hle.trans (hle2.trans hle3))).size
  simp only [h1]
  by_cases hc : (x.block == y.block && decide (x.block < p'.globals.size)) = true
  · rw [if_pos hc]
    simp only [Bool.and_eq_true, beq_iff_eq, decide_eq_true_eq] at hc
    have e1 := (hx.mono hle3).2.2.2.1 (by rw [hG3]; exact hc.2)
    have e2 := (hy.mono hle3).2.2.2.1 (by rw [hG3, ← hc.1]; exact hc.2)
    have l1 : ρ3.lo x.block = 0 := ρ3.glo _ (by rw [hG3]; exact hc.2)
    have l2 : ρ3.lo y.block = 0 := ρ3.glo _ (by rw [hG3, ← hc.1]; exact hc.2)
    rw [if_pos (by simp only [Bool.and_eq_true, beq_iff_eq, decide_eq_true_eq, e1, e2]; exact hc)]
    refine (sim_byteOf (hx.mono hle3) l1).bd fun ρ4 u u' hle4 hu => ?_
    obtain rfl : u = u' := hu
    refine (sim_byteOf ((hy.mono hle3).mono hle4) (by rw [hle4.lo]; exact l2)).bd fun ρ5 v v' _ hv => ?_
    obtain rfl : v = v' := hv
    exact .pr rfl
  · rw [if_neg hc]
    refine .dd ?_
    refine ⟨fun w c w1 e => ?_, ?_⟩
    · obtain ⟨i, w0, h2, h3⟩ := run_bind_two e
      have hi : Pg.info? t = some i := by
        have : (match Pg.info? t with | some i => (Pure.pure i : Sem TypeInfo) | none => stuck "no such type").run Pg w = .ok i w0 := h2
        cases h4 : Pg.info? t with
        | none => rw [h4] at this; cases this
        | some j => rw [h4] at this; cases this; rfl
      rw [kin_info (P := p') t] at hi
      rw [hi] at ht
      dsimp only at ht h3
      split at h3
      · rename_i hdesc
        rw [hdesc] at ht
        cases ht
      · cases h3
    · refine tame_bind (tame_typeInfo _) fun i => ?_
      split
      · split
        · exact tame_pure _
        · exact (dead_unsupported (Pg := Pg) _).2
      · exact (dead_unsupported (Pg := Pg) _).2
set_option maxHeartbeats 1000000 in
theorem sim_equal (hG : Fits P ρ) {t : TypeId} {y : Operand} (ht : eqOk P t y = true) {a a' b b' : Value} (ha : RelV ρ a a') (hb : RelV ρ b b') (hn : y = .const .nilIface → b = .nilIface ∧ b' = .nilIface) : SimS Pg P Same ρ (Op.equal t a b) (Op.equal t a' b') := by
  unfold Op.equal
  rw [show Op.maxDepth = 9999 + 1 from rfl]
  unfold Op.equalIn
  refine (sim_underlyingP t).bd fun ρ1 d d' hle hd => ?_
  obtain ⟨rfl, hd⟩ := hd
  unfold eqOk at ht
  rw [hd] at ht
  replace ha := ha.mono hle
  replace hb := hb.mono hle
  have hG1 : Fits P ρ1 := hG.mono hle
  cases d with
  | bool =>
    cases ha with
    | bool x => cases hb <;> first | exact .pr rfl | exact .dd (dead_stuck _)
    | _ => exact .dd (dead_stuck _)
  | string =>
    cases ha with
    | string x => cases hb <;> first | exact .pr rfl | exact .dd (dead_stuck _)
    | _ => exact .dd (dead_stuck _)
  | slice e =>
    cases ha with
    | sliceNil => cases hb <;> first | exact .pr rfl | exact .dd (dead_stuck _)
    | slice n c h => cases hb <;> first | exact .pr rfl | exact .dd (dead_stuck _)
    | _ => exact .dd (dead_stuck _)
  | interface ms =>
    have hy : y = .const .nilIface := by
      revert ht
      cases y with
      | const v => cases v <;> simp
      | _ => simp
    obtain ⟨rfl, rfl⟩ := hn hy
    cases ha <;> first | exact .pr rfl | exact .dd (dead_stuck _)
  | int k0 =>
    cases ha with
    | int k n =>
      cases hb with
      | int k' m =>
        dsimp only
        split
        · exact .pr rfl
        · exact .dd (dead_stuck _)
      | ptr h =>
        by_cases h0 : n = 0
        · subst h0; exact .pr rfl
        · refine .dd ?_
          split <;> first
            | exact dead_unsupported _
            | simp_all
      | ptrNil => exact .dd (dead_unsupported _)
      | _ => exact .dd (dead_stuck _)
    | @ptr x x' h =>
      cases hb with
      | @ptr z z' h' => exact sim_numbersEq hG1 ht h h'
      | int k' m =>
        by_cases h0 : m = 0
        · subst h0; exact .pr rfl
        · refine .dd ?_
          split <;> first
            | exact dead_unsupported _
            | simp_all
      | _ => exact .dd (dead_unsupported _)
    | ptrNil => cases hb <;> exact .dd (dead_unsupported _)
    | _ => cases hb <;> first | exact .dd (dead_stuck _) | exact .dd (dead_unsupported _)
  | _ => cases ht
theorem eqGuardType_no {t : TypeId} {d : TypeDesc} (hd : P.underlying t = some d) (hno : simpleD d = true) (n : Nat) : P.eqGuardType (n + 1) t = false := by
  unfold Program.eqGuardType
  rw [hd]
  cases d <;> first | rfl | cases hno
theorem guard_nil {t : TypeId} {d : TypeDesc} (hd : P.underlying t = some d) (hno : simpleD d = true) : SimS Pg P Same ρ (do if ← Op.eqGuardIn Op.maxDepth t .nilIface .nilIface then unsupported (.noEntry "binop/eql: two nil values of an interface type with methods, neither of them the literal nil")) (do if ← Op.eqGuardIn Op.maxDepth t .nilIface .nilIface then unsupported (.noEntry "binop/eql: two nil values of an interface type with methods, neither of them the literal nil")) := by
  refine SimS.bd (Q := Same) ?_ fun ρ1 u u' _ hu => ?_
  · rw [show Op.maxDepth = 9999 + 1 from rfl]
    unfold Op.eqGuardIn
    refine (sim_underlyingP t).bd fun ρ1 e e' hle he => ?_
    obtain ⟨rfl, he⟩ := he
    rw [hd] at he
    cases he
    cases d <;> first | exact .pr rfl | cases hno
  · obtain rfl : u = u' := hu
    split
    · exact .dd (dead_unsupported _)
    · exact .pr rfl
theorem guard_agg {t : TypeId} {d : TypeDesc} (hd : P.underlying t = some d) (hno : simpleD d = true) (s s' : Sem Unit) : SimS Pg P Same ρ (do let p ← program; let q ← program; if (!p.eqGuardType q.depth t) = true then Pure.pure () else s) (do let p ← program; let q ← program; if (!p.eqGuardType q.depth t) = true then Pure.pure () else s') := by
  refine SimS.bind (Q := fun _ p q => p = Pg ∧ q = P) (.program (.pure ⟨rfl, rfl⟩)) fun ρ1 p p' hle hp => ?_
  obtain ⟨h1, h2⟩ := hp
  refine SimS.bind (Q := fun _ p q => p = Pg ∧ q = P) (.program (.pure ⟨rfl, rfl⟩)) fun ρ2 q q' hle2 hq => ?_
  obtain ⟨h3, h4⟩ := hq
  rw [h1, h2, h3, h4]
  have e1 : P.eqGuardType P.depth t = false := eqGuardType_no hd hno _
  have e2 : Pg.eqGuardType Pg.depth t = false := eqGuardType_no (by rw [kin_underlying (P := P)]; exact hd) hno _
  rw [e1, e2]
  exact .pr rfl
theorem sim_eqGuard (op : BinOp) {t : TypeId} {x y : Operand} (ht : eqOk P t y = true) {a a' b b' : Value} (ha : RelV ρ a a') (hb : RelV ρ b b') (hn : y = .const .nilIface → b = .nilIface ∧ b' = .nilIface) : SimS Pg P Same ρ (eqGuard op t x y a b) (eqGuard op t x y a' b') := by
  by_cases hop : op = .eql ∨ op = .neq
  · by_cases hy : y = .const .nilIface
    · obtain ⟨rfl, rfl⟩ := hn hy
      subst hy
      rcases hop with rfl | rfl <;> cases ha <;> first | exact .pr rfl | (cases x <;> exact .pr rfl)
    · have hd : ∃ d, P.underlying t = some d ∧ simpleD d = true := by
        unfold eqOk at ht
        cases hu : P.underlying t with
        | none => rw [hu] at ht; cases ht
        | some d =>
          rw [hu] at ht
          refine ⟨d, rfl, ?_⟩
          cases d with
          | interface ms =>
            exfalso
            revert ht
            cases y with
            | const v => cases v <;> first | exact absurd rfl hy | simp
            | _ => simp
          | struct f => cases ht
          | array n e => cases ht
          | _ => rfl
      obtain ⟨d, hd, hno⟩ := hd
      rcases hop with rfl | rfl
      all_goals
        cases ha with
        | nilIface =>
          cases hb with
          | nilIface => cases x <;> cases y <;> first | exact .pr rfl | exact guard_nil hd hno
          | _ => exact .pr rfl
        | agg hx h =>
          cases hb with
          | agg hx' h' => exact guard_agg hd hno _ _
          | _ => exact .pr rfl
        | _ => exact .pr rfl
  · cases op <;> first | exact .pr rfl | exact absurd (.inl rfl) hop | exact absurd (.inr rfl) hop
theorem sim_binEq (hG : Fits P ρ) {op : BinOp} (hop : op = .eql ∨ op = .neq) {t : TypeId} {y : Operand} (ht : eqOk P t y = true) {a a' b b' : Value} (ha : RelV ρ a a') (hb : RelV ρ b b') (hn : y = .const .nilIface → b = .nilIface ∧ b' = .nilIface) : SimS Pg P RelV ρ (binOp op t a b) (binOp op t a' b') := by
  have gen : ∀ f : Bool → Bool, SimS Pg P RelV ρ (do Pure.pure (.bool (f (← Op.equal t a b)))) (do Pure.pure (.bool (f (← Op.equal t a' b')))) := fun f => (sim_equal hG ht ha hb hn).bd fun _ u u' _ hu => by
    obtain rfl : u = u' := hu
    exact .pr (.bool _)
  have g1 := gen id
  have g2 := gen not
  rcases hop with rfl | rfl
  · cases ha with
    | int k n =>
      cases hb with
      | int k' m =>
        show SimS Pg P RelV ρ (if k ≠ k' then _ else _) (if k ≠ k' then _ else _)
        split
        · exact .dd (dead_stuck _)
        · exact sim_intCmp _ n m
      | _ => exact g1
    | string s =>
      cases hb with
      | string s' => exact sim_stringOp .eql s s'
      | _ => exact g1
    | _ => exact g1
  · cases ha with
    | int k n =>
      cases hb with
      | int k' m =>
        show SimS Pg P RelV ρ (if k ≠ k' then _ else _) (if k ≠ k' then _ else _)
        split
        · exact .dd (dead_stuck _)
        · exact sim_intCmp _ n m
      | _ => exact g2
    | string s =>
      cases hb with
      | string s' => exact sim_stringOp .neq s s'
      | _ => exact g2
    | _ => exact g2
/-! ### bytes made a string; clear -/
theorem sim_stringOf (e : ByteArray → Sem (ForInStep ByteArray)) (he : ∀ s, Dead Pg (e s)) (l : List Value) : ∀ {ρ : Ren} (l' : List Value) (s : ByteArray), RelR ρ l.toArray l'.toArray → SimS Pg P Same ρ (forIn l s fun c s => match c with | .int .u8 n => Pure.pure (ForInStep.yield (s.push (UInt8.ofNat n.toNat))) | _ => e s) (forIn l' s fun c s => match c with | .int .u8 n => Pure.pure (ForInStep.yield (s.push (UInt8.ofNat n.toNat))) | _ => e s) := by
  induction l with
  | nil =>
    intro ρ l' s h
    have : l' = [] := by have := h.1; simp at this; exact List.length_eq_zero_iff.1 this.symm
    subst this
    exact .pr rfl
  | cons a l ih =>
    intro ρ l' s h
    cases l' with
    | nil => have := h.1; simp at this
    | cons b l' =>
      rw [List.forIn_cons, List.forIn_cons]
      have hab := h.2 0 a b (by simp) (by simp)
      have hl : RelR ρ l.toArray l'.toArray := ⟨by have := h.1; simpa using this, fun i v v' h1 h2 => h.2 (i + 1) v v' (by simpa using h1) (by simpa using h2)⟩
      cases hab with
      | int k n =>
        cases k <;> first
          | exact .dd (dead_left (he _))
          | exact ih l' _ hl
      | _ => exact .dd (dead_left (he _))
theorem sim_bytesToString {x x' : Value} (hx : RelV ρ x x') : SimS Pg P RelV ρ (Conv.bytesToString x) (Conv.bytesToString x') := by
  unfold Conv.bytesToString
  cases hx with
  | sliceNil => exact .pr (.string _)
  | slice n c h =>
    refine (sim_loadCells h n).bd fun ρ1 r r' hle hr => ?_
    obtain ⟨r⟩ := r
    obtain ⟨r'⟩ := r'
    refine SimS.bd (Q := Same) ?_ fun ρ2 s s' _ hs => ?_
    · simp only [List.forIn_toArray]
      exact sim_stringOf (Pg := Pg) (P := P) (fun s => do stuck "bytesToString: byte expected"; Pure.pure (ForInStep.yield s)) (fun s => dead_left (dead_stuck _)) r r' ByteArray.empty hr
    · obtain rfl : s = s' := hs
      exact .pr (.string _)
  | _ => exact .dd (dead_stuck _)
theorem sim_convertBytes {src dst e : TypeId} (h1 : P.underlying src = some (.slice e)) (h2 : P.underlying dst = some .string) (h3 : P.underlying e = some (.int .u8)) {x x' : Value} (hx : RelV ρ x x') : SimS Pg P RelV ρ (convert src dst x) (convert src dst x') := by
  unfold convert
  refine (sim_underlyingP src).bd fun ρ1 d d' hle hd => ?_
  obtain ⟨rfl, hd⟩ := hd
  refine (sim_underlyingP dst).bd fun ρ2 f f' hle2 hf => ?_
  obtain ⟨rfl, hf⟩ := hf
  rw [h1] at hd
  rw [h2] at hf
  cases hd
  cases hf
  have hx2 := (hx.mono hle).mono hle2
  have gen : ∀ {z z' : Value}, RelV ρ2 z z' → SimS Pg P RelV ρ2 (do match ← underlying e with | .int .u8 => Conv.bytesToString z | .int .i32 => Conv.runesToString z | _ => stuck "Convert: a slice of what to string?") (do match ← underlying e with | .int .u8 => Conv.bytesToString z' | .int .i32 => Conv.runesToString z' | _ => stuck "Convert: a slice of what to string?") := fun hz =>
    (sim_underlyingP e).bd fun ρ3 g g' hle3 hg => by
      obtain ⟨rfl, hg⟩ := hg
      rw [h3] at hg
      cases hg
      exact sim_bytesToString (hz.mono hle3)
  cases hx2 with
  | int k n => exact .pr (.string _)
  | string s => exact .pr (.string s)
  | bool b => exact gen (.bool b)
  | ptrNil => exact gen .ptrNil
  | ptr h => exact gen (.ptr h)
  | sliceNil => exact gen .sliceNil
  | slice n c h => exact gen (.slice n c h)
  | mapNil => exact gen .mapNil
  | chanNil => exact gen .chanNil
  | func f g0 g1 g2 g3 g4 => exact gen (.func f g0 g1 g2 g3 g4)
  | nilFunc => exact gen .nilFunc
  | iface t h => exact gen (.iface t h)
  | nilIface => exact gen .nilIface
  | agg g1 g2 => exact gen (.agg g1 g2)
  | tuple g1 g2 => exact gen (.tuple g1 g2)
theorem sim_clear {t ty : TypeId} {x x' : Value} (hE : okElem P t = true) (hx : RelV ρ x x') : SimS Pg P RelV ρ (Builtin.clear_ #[t] ty #[x]) (Builtin.clear_ #[t] ty #[x']) := by
  unfold Builtin.clear_
  refine (sim_underlyingP t).bd fun ρ1 d d' hle hd => ?_
  obtain ⟨rfl, hd⟩ := hd
  replace hx := hx.mono hle
  have un : ∀ {ρ : Ren}, RelV ρ (.tuple #[]) (.tuple #[]) := RelR.tuple .empty
  cases hx with
  | mapNil => cases d <;> exact .pr un
  | sliceNil => cases d <;> exact .pr un
  | slice n c h =>
    cases n with
    | zero => cases d <;> exact .pr un
    | succ n =>
      cases d with
      | slice elem =>
        have hz0 : okZero P elem = true := by simpa [okElem, hd] using hE
        refine (sim_zeroValue hz0).bd fun ρ2 z z' hle2 hz => ?_
        exact (sim_storeCells _ (h.mono hle2) _ 0 (by simpa using (hz.cells.zeros (n + 1)).list)).bd fun _ _ _ _ _ => .pr un
      | _ => exact .dd (dead_left (dead_stuck _))
  | _ => cases d <;> exact .dd (dead_left (dead_stuck _))
end
section
variable {Pg P : Program} [Kin Pg P] {ρ : Ren}
def appsZ (elem : TypeId) (size m : Nat) : Sem (Array Value) := if m * size = 0 then pure #[] else do
  let z ← zeroValue elem
  pure (Builtin.zeroCells z.cells m)
theorem sim_appsZ {elem : TypeId} (hz0 : okZero P elem = true) (size m : Nat) : SimS Pg P RelR ρ (appsZ elem size m) (appsZ elem size m) := by
  unfold appsZ
  split
  · exact .pr .empty
  · exact (sim_zeroValue hz0).bd fun ρ1 z z' _ hz => .pr (hz.cells.zeros _)
def appNewZ (elem : TypeId) (size n c m : Nat) (s : Value) : Sem Value := do
  let newCap ← choose (.appendCap (n + m) c elem)
  let i ← typeInfo elem
  askRoom (newCap * i.bytes)
  let old ← Builtin.firstCells size n s
  let new ← appsZ elem size m
  let z ← zeroValue elem
  let a ← newRow elem (old ++ new ++ Builtin.zeroCells z.cells (newCap - (n + m)))
  pure (.slice (some a) (n + m) newCap)
theorem sim_appNewZ {elem : TypeId} (hz0 : okZero P elem = true) (size n c m : Nat) {s s' : Value} (hs : RelV ρ s s') : SimS Pg P RelV ρ (appNewZ elem size n c m s) (appNewZ elem size n c m s') := by
  refine SimS.bd (Q := Same) (.choose _ fun _ => .pure rfl) fun ρ1 q q' hle hq => ?_
  obtain rfl : q = q' := hq
  refine (sim_typeInfo elem).bd fun ρ2 i i' hle2 hi => ?_
  obtain ⟨rfl, _⟩ := hi
  refine (sim_askRoom _).bd fun ρ3 _ _ hle3 _ => ?_
  refine (sim_firstCells (((hs.mono hle).mono hle2).mono hle3) size n).bd fun ρ4 o o' hle4 ho => ?_
  refine (sim_appsZ hz0 size m).bd fun ρ5 e e' hle5 he => ?_
  refine (sim_zeroValue hz0).bd fun ρ6 z z' hle6 hz => ?_
  exact (sim_newRow elem ((((ho.mono hle5).mono hle6).append (he.mono hle6)).append (hz.cells.zeros _))).bd fun ρ7 a a' _ ha => .pr (.slice _ _ ha)
def appEndZ (elem : TypeId) (size : Nat) (base : Option Addr) (n c m : Nat) : Sem Value :=
  if n + m ≤ c then do
    let new ← appsZ elem size m
    match base with
    | some a => do
      let _ ← storeCells (a.add (n * size)) new.toList
      pure (.slice base (n + m) c)
    | none => pure (.slice base (n + m) c)
  else do
    let i ← typeInfo elem
    let big : Unit → Sem Value := fun _ => do
      let j ← typeInfo elem
      if Builtin.nextslicecap (n + m) c * j.bytes > 2 ^ 48 then do
        let r ← (runtimePanic (.error "growslice: len out of range") : Sem Unit)
        let _ := r
        appNewZ elem size n c m (.slice base n c)
      else appNewZ elem size n c m (.slice base n c)
    if ((n + m : Nat) : Int) > IntKind.i64.max ∧ (true = true ∨ i.bytes = 0) then do
      let r ← runtimePanic (.error "growslice: len out of range")
      big r
    else big ()
theorem sim_appEndZ {elem : TypeId} (hz0 : okZero P elem = true) (size n c m : Nat) {base base' : Option Addr} (hb : (base = none ∧ base' = none ∧ n = 0 ∧ c = 0) ∨ ∃ a a', base = some a ∧ base' = some a' ∧ RelA ρ a a') : SimS Pg P RelV ρ (appEndZ elem size base n c m) (appEndZ elem size base' n c m) := by
  have hs : RelV ρ (.slice base n c) (.slice base' n c) := by
    rcases hb with ⟨rfl, rfl, rfl, rfl⟩ | ⟨a, a', rfl, rfl, ha⟩
    · exact .sliceNil
    · exact .slice n c ha
  unfold appEndZ
  split
  · rename_i hnm
    refine (sim_appsZ hz0 size m).bd fun ρ1 e e' hle he => ?_
    rcases hb with ⟨rfl, rfl, rfl, rfl⟩ | ⟨a, a', rfl, rfl, ha⟩
    · obtain rfl : m = 0 := by omega
      exact .pr .sliceNil
    · refine (sim_storeCells _ ((ha.mono hle).add _) _ 0 he.list).bd fun ρ2 _ _ hle2 _ => ?_
      exact .pr (.slice _ _ ((ha.mono hle).mono hle2))
  · refine (sim_typeInfo elem).bd fun ρ1 i i' hle hi => ?_
    obtain ⟨rfl, _⟩ := hi
    dsimp only
    split
    · exact .dd (dead_left (dead_runtimePanic _))
    · refine (sim_typeInfo elem).bd fun ρ2 j j' hle2 hj => ?_
      obtain ⟨rfl, _⟩ := hj
      split
      · exact .dd (dead_left (dead_runtimePanic _))
      · exact sim_appNewZ hz0 size n c m ((hs.mono hle).mono hle2)
def manyK (elem : TypeId) (K : Nat → Sem Value) (y : Int) : Sem Value :=
  let l := IntKind.i64.wrap y
  let jp1 : Unit → Sem Value := fun _ => do
    let i ← typeInfo elem
    let jp2 : Unit → Sem Value := fun _ => do
      let n ← pure l.toNat
      K n
    if l * i.bytes > 2 ^ 48 then do
      let made ← choose (.extern "append.ofMake.carriedOut" 2)
      let r ← (runtimePanic (.error (if made == 1 then "makeslice: len out of range" else "growslice: len out of range")) : Sem Unit)
      jp2 r
    else jp2 ()
  if l < 0 then do
    let r ← (runtimePanic (.error "makeslice: len out of range") : Sem Unit)
    jp1 r
  else jp1 ()
theorem sim_manyK (elem : TypeId) {K K' : Nat → Sem Value} (y : Int) (hK : ∀ ρ' m, ρ.le ρ' → SimS Pg P RelV ρ' (K m) (K' m)) : SimS Pg P RelV ρ (manyK elem K y) (manyK elem K' y) := by
  unfold manyK
  dsimp only
  split
  · exact .dd (dead_left (dead_runtimePanic _))
  · refine (sim_typeInfo elem).bd fun ρ2 i i' hle2 hi => ?_
    obtain ⟨rfl, _⟩ := hi
    split
    · exact .dd (dead_bind (tame_choose _) fun _ => dead_left (dead_runtimePanic _))
    · exact hK ρ2 _ hle2
theorem sim_appendZ {t u ty : TypeId} {k : IntKind} (hE : okElem P t = true) (hu : P.underlying u = some (.int k)) {s s' x x' : Value} (hs : RelV ρ s s') (hx : RelV ρ x x') : SimS Pg P RelV ρ (Builtin.append_ #[t, u] ty #[s, x]) (Builtin.append_ #[t, u] ty #[s', x']) := by
  unfold Builtin.append_
  refine (sim_underlyingP t).bd fun ρ1 d d' hle hd => ?_
  obtain ⟨rfl, hd⟩ := hd
  cases d with
  | slice elem =>
    have hz0 : okZero P elem = true := by simpa [okElem, hd] using hE
    cases hs with
    | sliceNil =>
      refine (sim_sizeOf elem).bd fun ρ2 z z' hle2 hz => ?_
      obtain rfl : z = z' := hz
      refine (sim_underlyingP u).bd fun ρ3 e e' hle3 he => ?_
      obtain ⟨rfl, he⟩ := he
      rw [hu] at he
      cases he
      have hx3 := ((hx.mono hle).mono hle2).mono hle3
      refine (show SimS Pg P RelV ρ3 (asInt x >>= manyK elem fun m => appEndZ elem z none 0 0 m) (asInt x' >>= manyK elem fun m => appEndZ elem z none 0 0 m) from ((sim_asInt hx3).bd fun ρ4 y y' hle4 hy => ?_))
      obtain rfl : y = y' := hy
      exact sim_manyK elem y fun ρ5 m hle5 => sim_appEndZ hz0 z 0 0 m (.inl ⟨rfl, rfl, rfl, rfl⟩)
    | slice n c h =>
      refine (sim_sizeOf elem).bd fun ρ2 z z' hle2 hz => ?_
      obtain rfl : z = z' := hz
      refine (sim_underlyingP u).bd fun ρ3 e e' hle3 he => ?_
      obtain ⟨rfl, he⟩ := he
      rw [hu] at he
      cases he
      have hx3 := ((hx.mono hle).mono hle2).mono hle3
      have h3 := ((h.mono hle).mono hle2).mono hle3
      refine (show SimS Pg P RelV ρ3 (asInt x >>= manyK elem fun m => appEndZ elem z (some _) n c m) (asInt x' >>= manyK elem fun m => appEndZ elem z (some _) n c m) from ((sim_asInt hx3).bd fun ρ4 y y' hle4 hy => ?_))
      obtain rfl : y = y' := hy
      exact sim_manyK elem y fun ρ5 m hle5 => sim_appEndZ hz0 z n c m (.inr ⟨_, _, rfl, rfl, ((h3.mono hle4).mono hle5)⟩)
    | _ => exact .dd (dead_stuck _)
  | _ => exact .dd (dead_stuck _)
end
end Go.Proofs.YtnpffnhiefgglaaGreatDoor
