/-
  Plain facts on worlds and lists of bytes for the proofs of this seat: what a row of bytes that the call made reads as, that it stays behind calls that make memory of their own, and what is stored into it. Conditions: none beyond each fact's own.
-/
import Derived.WalkKit
import Derived.ProofKit
import Derived.WalkSpells
import Derived.OpenShut
import Derived.Laws.BytesArg
import Derived.Deep.QuietTactic
import Derived.BigQuiet
import Derived.Deep.AppendLies
import Derived.Lib.OthersKept
import Derived.Laws.RangeAny
import Derived.Deep.RegionLaw
namespace Go.Proofs.Ytkkaipeklbhliaa
open Go.RowKit
set_option maxRecDepth 100000

/-- The bytes xs lie in a slice of n elements at p; of one that has none nothing is said. -/
def BytesIn (w : World) (p : Option Addr) (n : Nat) (xs : List Int) : Prop :=
  0 < n → ∃ b o, p = some ⟨b, o, none⟩ ∧ ∀ i, i < n → w.cell? ⟨b, o + i, none⟩ = some (.int .u8 (xs.getD i 0))

/-- The text of a slice of bytes. -/
theorem text_of {P : Program} {w : World} {p : Option Addr} {n : Nat} {xs : List Int} (h : BytesIn w p n xs) (hx : xs.length = n) (c : Nat) (src e dst : TypeId)
    (hs : P.underlying src = some (.slice e)) (he : P.underlying e = some (.int .u8)) (hd : P.underlying dst = some .string) :
    (convert src dst (.slice p n c)).run P w = .ok (.string (strOfNums xs)) w := by
  rcases Nat.eq_zero_or_pos n with hn | hn
  · subst hn
    obtain rfl : xs = [] := List.eq_nil_of_length_eq_zero hx
    rw [run_convert_bytes_string w src dst e _ 0 c hs he hd]
    cases p <;> simp [Conv.bytesToString, loadCells]
    all_goals rfl
  · obtain ⟨b, o, rfl, hc⟩ := h hn
    exact run_convert_bytes_arg (P := P) w src e hs he b o n c xs hx hc dst hd

theorem below_drewN {B : Nat} {a w : World} (h : Below B a w) (n : Nat) : Below B a (w.drewN n) := h.trans ⟨rfl, rfl, rfl, Nat.le_refl _, fun _ _ => rfl⟩

/-- One step more. -/
theorem below_on {a w w' : World} (h : Below a.heap.size a w) (k : Below w.heap.size w w') : Below a.heap.size a w' := h.trans (k.mono h.size)

/-- Two texts of bytes are one just where the bytes are. -/
theorem text_eq {xs ys : List Int} (hx : ∀ x ∈ xs, 0 ≤ x ∧ x < 256) (hy : ∀ y ∈ ys, 0 ≤ y ∧ y < 256) : (strOfNums xs).data.toList = (strOfNums ys).data.toList ↔ xs = ys := by
  rw [strOfNums_data, strOfNums_data]
  constructor
  · intro h
    induction xs generalizing ys with
    | nil => cases ys with
      | nil => rfl
      | cons y ys => simp at h
    | cons x xs ih => cases ys with
      | nil => simp at h
      | cons y ys =>
        simp only [List.map_cons, List.cons.injEq] at h
        have h1 := hx x (by simp)
        have h2 := hy y (by simp)
        have e : x = y := by
          have := congrArg UInt8.toNat h.1
          simp at this
          omega
        rw [e, ih (fun z hz => hx z (by simp [hz])) (fun z hz => hy z (by simp [hz])) h.2]
  · intro h; rw [h]

/-- What a row owns it owns behind a step that turned nothing old. -/
theorem owns_below {w w' : World} {base e size : Nat} {v : Value} {n : Nat} {xs : List Value} (h : w.ownsRow base e size v n xs) (hb : Below w.heap.size w w') : w'.ownsRow base e size v n xs :=
  h.kept (row := none) ⟨hb.os, hb.tape, hb.output, hb.size, fun k hk _ => hb.block k hk⟩ (by cases v.ownBlock <;> simp)

theorem owns_mono {w : World} {base base' e size : Nat} {v : Value} {n : Nat} {xs : List Value} (h : w.ownsRow base e size v n xs) (hb : base' ≤ base) : w.ownsRow base' e size v n xs := by
  refine ⟨h.1, ?_⟩
  rcases h.2 with hn | ⟨g, cap, cur, hv, hbg, rest⟩
  · exact .inl hn
  · exact .inr ⟨g, cap, cur, hv, Nat.le_trans hb hbg, rest⟩

/-- The same, where the step turned nothing below B and the row lies below B. -/
theorem owns_below' {w w' : World} {B base e size : Nat} {v : Value} {n : Nat} {xs : List Value} (h : w.ownsRow base e size v n xs) (hb : Below B w w') (hB : ∀ k, v.ownBlock = some k → k < B) : w'.ownsRow base e size v n xs := by
  refine ⟨h.1, ?_⟩
  rcases h.2 with hn | ⟨g, cap, cur, rfl, hbg, hgg, rest⟩
  · exact .inl hn
  · refine .inr ⟨g, cap, cur, rfl, hbg, ?_, rest⟩
    rw [hb.block g (hB g rfl)]
    exact hgg

/-- What a row of bytes that the call owns reads as. -/
theorem owns_in {w : World} {base e : Nat} {p : Option Addr} {n c : Nat} {xs : List Int} (h : w.ownsRow base e 1 (.slice p n c) n (xs.map (Value.int .u8))) : BytesIn w p n xs := by
  intro hn
  rcases h.2 with ⟨_, h0⟩ | ⟨g, cap, cur, hv, _, _⟩
  · omega
  · simp only [Value.slice.injEq] at hv
    obtain ⟨rfl, _, rfl⟩ := hv
    refine ⟨g, 0, rfl, fun i hi => ?_⟩
    have hl := h.1
    simp only [List.length_map, Nat.mul_one] at hl
    have := h.cellAt i (by omega)
    simp only [Nat.zero_add]
    rw [this]
    simp [List.getElem?_eq_getElem (show i < xs.length by omega), List.getD]

/-- What lies somewhere lies there behind a step that turned nothing old. -/
theorem in_below {w w' : World} {p : Option Addr} {n : Nat} {xs : List Int} (h : BytesIn w p n xs) (hb : Below w.heap.size w w') : BytesIn w' p n xs := by
  intro hn
  obtain ⟨b, o, rfl, hc⟩ := h hn
  refine ⟨b, o, rfl, fun i hi => ?_⟩
  have hlt : b < w.heap.size := World.block_lt_of_cell? w ⟨b, o + i, none⟩ (hc i hi)
  rw [hb.cell (p := ⟨b, o + i, none⟩) hlt]
  exact hc i hi

theorem owns_len {w : World} {base e : Nat} {v : Value} {n : Nat} {xs : List Int} (h : w.ownsRow base e 1 v n (xs.map (Value.int .u8))) : xs.length = n := by
  have := h.1; simpa using this

/-- The shape of what is owned. -/
theorem owns_form {w : World} {base e size : Nat} {v : Value} {n : Nat} {xs : List Value} (h : w.ownsRow base e size v n xs) : ∃ p c, v = .slice p n c := by
  rcases h.2 with ⟨rfl, rfl⟩ | ⟨g, cap, cur, rfl, _⟩
  · exact ⟨_, _, rfl⟩
  · exact ⟨_, _, rfl⟩

/-- One byte more of xs in the place of a nought. -/
theorem fill_step (xs : List Int) (n k : Nat) (u : Int) (hu : u = xs.getD k 0) (hk : k < n) (hx : xs.length = n) :
    ((xs.take k ++ List.replicate (n - k) 0).map (Value.int .u8)).set k (.int .u8 u) = (xs.take (k + 1) ++ List.replicate (n - (k + 1)) 0).map (Value.int .u8) := by
  subst hu
  simp only [List.getD_eq_getElem?_getD]
  apply List.ext_getElem
  · simp; omega
  · intro i h1 h2
    simp only [List.getElem_set, List.getElem_map]
    simp at h1 h2
    by_cases e : k = i
    · subst e
      simp [List.getElem_append, hx, hk]
      intro h; omega
    · simp only [e, if_false]
      by_cases hi : i < k
      · simp [List.getElem_append, hx]
        rw [dif_pos (by omega), dif_pos (by omega)]
      · simp [List.getElem_append, hx]
        rw [dif_neg (by omega), dif_neg (by omega)]

theorem fill_old (xs : List Int) (n k : Nat) (hk : k < n) (hx : xs.length = n) : ((xs.take k ++ List.replicate (n - k) 0).map (Value.int .u8))[k]? = some (.int .u8 0) := by
  rw [List.getElem?_eq_getElem (by simp; omega)]
  simp [List.getElem_append, hx]
  intro h; omega

theorem fill_start (xs : List Int) (n : Nat) : (madeCells #[Value.int .u8 0] n).toList = (xs.take 0 ++ List.replicate (n - 0) 0).map (Value.int .u8) := by
  rw [toList_madeCells_one]
  simp

theorem fill_end (xs : List Int) (n : Nat) (hx : xs.length = n) : (xs.take n ++ List.replicate (n - n) 0) = xs := by
  subst hx; simp

/-- Two lists that are one up to k are one up to k + 1 just where they have one element there. -/
theorem take_more {xs ys : List Int} {n k : Nat} (hx : xs.length = n) (hy : ys.length = n) (hk : k < n) (h : xs.take k = ys.take k) (e : xs.getD k 0 = ys.getD k 0) : xs.take (k + 1) = ys.take (k + 1) := by
  rw [List.take_succ_eq_append_getElem (by omega), List.take_succ_eq_append_getElem (by omega), h]
  simp [List.getElem?_eq_getElem (show k < xs.length by omega), List.getElem?_eq_getElem (show k < ys.length by omega)] at e
  rw [e]

theorem take_less {xs ys : List Int} {k : Nat} (e : xs.getD k 0 ≠ ys.getD k 0) : xs ≠ ys := fun h => e (by rw [h])

theorem take_all {xs ys : List Int} {n : Nat} (hx : xs.length = n) (hy : ys.length = n) (h : xs.take n = ys.take n) : xs = ys := by
  rwa [List.take_of_length_le (by omega), List.take_of_length_le (by omega)] at h

/-- WHAT THE WALK IS TOLD OF A SLICE OF BYTES THAT CAME IN, in this seat's words: the first len of its numbers lie there, each a byte. -/
theorem row_in {w : World} {a : Option Addr} {len cap : Nat} {zs : List Int}
    (h : (a = none ∧ len = 0 ∧ cap = 0 ∧ zs = []) ∨ ∃ x, a = some x ∧ len ≤ cap ∧ cap ≤ maxLen ∧ zs.length = cap ∧ (∀ i, i < zs.length → w.cell? (x.add i) = some (.int .u8 (zs.getD i 0))) ∧ ∀ n ∈ zs, (Lit.int .u8 n).wf = true) :
    (zs.take len).length = len ∧ BytesIn w a len (zs.take len) ∧ ∀ x ∈ zs.take len, 0 ≤ x ∧ x < 256 := by
  rcases h with ⟨rfl, rfl, rfl, rfl⟩ | ⟨x, rfl, hl, hm, hz, hcell, hwz⟩
  · exact ⟨rfl, fun h => absurd h (Nat.lt_irrefl 0), fun x hx => by simp at hx⟩
  · refine ⟨by simp; omega, fun hn => ?_, fun y hy => ?_⟩
    · obtain ⟨b, off, spot⟩ := x
      have hc := hcell 0 (by omega)
      have hspot : spot = none := by simpa [Addr.add] using World.cell?_spot hc
      subst hspot
      refine ⟨b, off, rfl, fun i hi => ?_⟩
      have := hcell i (by omega)
      rw [Addr.add_lit] at this
      rw [this]
      simp [hi]
    · have := bounds_u8 (hwz y (List.mem_of_mem_take hy))
      omega

/-- What is laid by markByteS from k on. -/
def marks (k : Int) (n : Nat) : List Int := (List.range n).map fun (i : Nat) => (k + (i : Int)) % 256

theorem marks_length (k : Int) (n : Nat) : (marks k n).length = n := by simp [marks]

theorem marks_getD (k : Int) (n i : Nat) (h : i < n) : (marks k n).getD i 0 = (k + (i : Int)) % 256 := by simp [marks, h]

theorem marks_step (k : Int) (xs : List Int) (n j : Nat) (u : Int) (hu : u = (k + (j : Int)) % 256) (hj : j < n) (hx : xs.length = n) :
    ((marks k j ++ xs.drop j).map (Value.int .u8)).set j (.int .u8 u) = (marks k (j + 1) ++ xs.drop (j + 1)).map (Value.int .u8) := by
  subst hu
  have e : xs.drop j = xs[j]'(by omega) :: xs.drop (j + 1) := List.drop_eq_getElem_cons (by omega)
  have m : marks k (j + 1) = marks k j ++ [(k + (j : Int)) % 256] := by simp [marks, List.range_succ]
  rw [e, m, List.map_append, List.map_cons, List.set_append_right _ _ (by simp [marks_length])]
  simp [marks_length]

theorem marks_old (k : Int) (xs : List Int) (n j : Nat) (hj : j < n) (hx : xs.length = n) : ∃ u, ((marks k j ++ xs.drop j).map (Value.int .u8))[j]? = some (.int .u8 u) := by
  refine ⟨(marks k j ++ xs.drop j)[j]'(by simp [marks_length]; omega), ?_⟩
  rw [List.getElem?_eq_getElem (by simp [marks_length]; omega), List.getElem_map]

theorem marks_end (k : Int) (xs : List Int) (n : Nat) (hx : xs.length = n) : marks k n ++ xs.drop n = marks k n := by
  rw [List.drop_of_length_le (by omega), List.append_nil]

theorem grown_trans {a b c : World} {row : Option Nat} (h : a.grownBy b row) (k : b.grownBy c row) : a.grownBy c row :=
  ⟨k.os.trans h.os, k.tape.trans h.tape, k.output.trans h.output, Nat.le_trans h.size k.size, fun i hi hr => (k.block i (Nat.lt_of_lt_of_le hi h.size) hr).trans (h.block i hi hr)⟩

/-- Where a row that is owned has elements it stands at a block's head. -/
theorem owns_at {w : World} {base e : Nat} {p : Option Addr} {n c : Nat} {xs : List Value} (h : w.ownsRow base e 1 (.slice p n c) n xs) (hn : 0 < n) : ∃ g, p = some ⟨g, 0, none⟩ := by
  rcases h.2 with ⟨_, h0⟩ | ⟨g, cap, cur, hv, _⟩
  · omega
  · simp only [Value.slice.injEq] at hv
    exact ⟨g, hv.1⟩

/-- A string's iterator that is moved on turns no row. -/
theorem owns_iter {w : World} {base e size : Nat} {v : Value} {n : Nat} {xs : List Value} (h : w.ownsRow base e size v n xs) {k : Nat} {s : ByteArray} {pos : Nat} (hk : w.heap[k]? = some (.stringIter s pos)) (pos' : Nat) : (w.iterAt k s pos').ownsRow base e size v n xs := by
  refine ⟨h.1, ?_⟩
  rcases h.2 with hn | ⟨g, cap, cur, hv, hbg, hg, rest⟩
  · exact .inl hn
  · refine .inr ⟨g, cap, cur, hv, hbg, ?_, rest⟩
    have hne : g ≠ k := by
      intro e1
      rw [e1, hk] at hg
      cases hg
    rw [Lib.iterAt_other w k g s pos' hne]
    exact hg

/-- The iterator's block is no row's. -/
theorem iter_not_own {w : World} {base e size : Nat} {v : Value} {n : Nat} {xs : List Value} (h : w.ownsRow base e size v n xs) {k : Nat} {s : ByteArray} {pos : Nat} (hk : w.heap[k]? = some (.stringIter s pos)) : some k ≠ v.ownBlock := by
  rcases h.2 with ⟨rfl, _⟩ | ⟨g, cap, cur, rfl, _, hg, _⟩
  · simp [Value.ownBlock]
  · simp only [Value.ownBlock, ne_eq, Option.some.injEq]
    intro e1
    subst e1
    rw [hk] at hg
    cases hg

/-- A row of bytes xs that the call made: v, of n elements; its block lies from lo on and ahead of hi. -/
def Own (e : Nat) (w : World) (lo hi : Nat) (v : Value) (n : Nat) (xs : List Int) : Prop := w.ownsRow lo e 1 v n (xs.map (Value.int .u8)) ∧ ∀ k, v.ownBlock = some k → k < hi

section
variable {e : Nat} {w w' a : World} {lo hi lo' hi' : Nat} {u v : Value} {n m : Nat} {xs ys : List Int}

theorem Own.of (h : w.ownsRow lo e 1 v n (xs.map (Value.int .u8))) : Own e w lo w.heap.size v n xs := ⟨h, fun k hk => (h.lt k hk).2⟩
theorem Own.on (h : Own e w lo hi v n xs) (hb : Below w.heap.size w w') : Own e w' lo hi v n xs := ⟨owns_below h.1 hb, h.2⟩
theorem Own.far (h : Own e w lo hi v n xs) (hg : w.grownBy w' u.ownBlock) (hu : Own e w lo' hi' u m ys) (hd : hi ≤ lo' ∨ hi' ≤ lo) : Own e w' lo hi v n xs := by
  refine ⟨h.1.kept hg ?_, h.2⟩
  rcases hv : v.ownBlock with _ | k
  · exact .inl rfl
  · right
    intro he
    have h1 := h.2 k hv
    have h2 := (h.1.lt k hv).1
    have h3 := hu.2 k he.symm
    have h4 := (hu.1.lt k he.symm).1
    omega
theorem Own.len (h : Own e w lo hi v n xs) : xs.length = n := owns_len h.1
theorem Own.bytes {p : Option Addr} {c : Nat} (h : Own e w lo hi (.slice p n c) n xs) : BytesIn w p n xs := owns_in h.1
theorem below_mark (h : Below a.heap.size a w) (hg : w.grownBy w' u.ownBlock) (hu : Own e w lo' hi' u m ys) (hlo : a.heap.size ≤ lo') : Below a.heap.size a w' :=
  h.grown hg h.size fun k hk => Nat.le_trans hlo (hu.1.lt k hk).1
end

section
variable {P : Program} {e : TypeId} {i : TypeInfo} {base n : Nat} {wr : World} {v : Value} {xs : List Int}

theorem pushs_fit {m : Nat} (hn : n ≤ 1099511627776) (hm : m ≤ 1099511627776) : n + m ≤ maxLen ∧ (n + m) * 1 ≤ 140737488355328 := by unfold maxLen; omega

/-- 'append(out, x, y, ..)' of some bytes, out a row that the call owns, as one step of a region that draws its order. -/
theorem step_pushs {ops : Array Oper} {o : Oper} {a : Act} {K : Act → World → Prop} {Q : Exit → Act → World → Prop} {E : Prop} (hi : P.info? e = some i) (hz : i.zero = some (.int .u8 0)) (hsize : i.size = 1) (hby : i.bytes = 1)
    (s y : Operand) (t : TypeId) (ht : P.underlying t = some (.slice e)) (cs : Array Value) (ys : List Int) (hcs : cs.toList = ys.map (Value.int .u8)) (hm : 0 < ys.length) (hm' : ys.length ≤ 1099511627776)
    (hown : wr.ownsRow base e 1 v n (xs.map (Value.int .u8))) (hn : n ≤ 1099511627776) (hbase : base ≤ wr.heap.size)
    (hgd : o.guard = none) (ho : o.op = .call { callee := .builtin .append, args := #[s, y], argTypes := #[t, t] }) (hs : a.eval s = v) (hy : a.eval y = .slice (some ⟨wr.heap.size, 0, none⟩) ys.length ys.length)
    (h : ∀ g cap w', w'.ownsRow base e 1 (.slice (some ⟨g, 0, none⟩) (n + ys.length) cap) (n + ys.length) ((xs ++ ys).map (Value.int .u8)) → Below base wr w' → K (a.put o.dst (.slice (some ⟨g, 0, none⟩) (n + ys.length) cap)) w') :
    if Region.wanted o (yielded ops a.tmps) = true then Oper.wp P o a (wr.alloc (.cells cs e)).drew K Q else E := by
  refine step_append_lies _ hgd s y t ho base e i (.int .u8 0) 1 1 ht hi hz hsize hby rfl (by decide) v n (xs.map (Value.int .u8)) hs (hown.alloc _).drew ⟨wr.heap.size, 0, none⟩ ys.length ys.length (ys.map (Value.int .u8)) hy (by simp) ?_ (ints_oneCell _ _) hm (pushs_fit hn hm').1 (pushs_fit hn hm').2 (by simp; omega) _ rfl ?_
  · rw [← hcs]
    exact World.news_of_block (cs := cs) (heap_alloc_new wr _)
  · intro g cap w' h1 h2 _ _
    refine h g cap w' (by simpa using h1) (((Below.refl _ _).alloc hbase _).drew.grown h2 (by simp; omega) fun k hk => (hown.lt k hk).1)

/-- The same in a plain region. -/
theorem list_pushs {ops : Array Oper} {rest : List Oper} {o : Oper} {a : Act} {Q : Exit → Act → World → Prop} (hi : P.info? e = some i) (hz : i.zero = some (.int .u8 0)) (hsize : i.size = 1) (hby : i.bytes = 1)
    (s y : Operand) (t : TypeId) (ht : P.underlying t = some (.slice e)) (cs : Array Value) (ys : List Int) (hcs : cs.toList = ys.map (Value.int .u8)) (hm : 0 < ys.length) (hm' : ys.length ≤ 1099511627776)
    (hown : wr.ownsRow base e 1 v n (xs.map (Value.int .u8))) (hn : n ≤ 1099511627776) (hbase : base ≤ wr.heap.size)
    (hgd : o.guard = none) (ho : o.op = .call { callee := .builtin .append, args := #[s, y], argTypes := #[t, t] }) (hs : a.eval s = v) (hy : a.eval y = .slice (some ⟨wr.heap.size, 0, none⟩) ys.length ys.length)
    (h : ∀ g cap w', w'.ownsRow base e 1 (.slice (some ⟨g, 0, none⟩) (n + ys.length) cap) (n + ys.length) ((xs ++ ys).map (Value.int .u8)) → Below base wr w' → wpList P ops Q rest (a.put o.dst (.slice (some ⟨g, 0, none⟩) (n + ys.length) cap)) w') :
    wpList P ops Q (o :: rest) a (wr.alloc (.cells cs e)) := by
  refine wpList_append_lies _ hgd s y t ho base e i (.int .u8 0) 1 1 ht hi hz hsize hby rfl (by decide) v n (xs.map (Value.int .u8)) hs (hown.alloc _) ⟨wr.heap.size, 0, none⟩ ys.length ys.length (ys.map (Value.int .u8)) hy (by simp) ?_ (ints_oneCell _ _) hm (pushs_fit hn hm').1 (pushs_fit hn hm').2 (by simp; omega) _ rfl ?_
  · rw [← hcs]
    exact World.news_of_block (cs := cs) (heap_alloc_new wr _)
  · intro g cap w' h1 h2 _ _
    refine h g cap w' (by simpa using h1) (((Below.refl _ _).alloc hbase _).grown h2 (by simp; omega) fun k hk => (hown.lt k hk).1)

/-- One byte in a plain region, and every other block stays as it was. -/
theorem list_pushK {ops : Array Oper} {rest : List Oper} {o : Oper} {a : Act} {Q : Exit → Act → World → Prop} (hi : P.info? e = some i) (hz : i.zero = some (.int .u8 0)) (hsize : i.size = 1) (hby : i.bytes = 1)
    (s y : Operand) (t : TypeId) (ht : P.underlying t = some (.slice e)) (x : Int) (hown : wr.ownsRow base e 1 v n (xs.map (Value.int .u8))) (hn : n ≤ 1099511627776) (hbase : base ≤ wr.heap.size)
    (hgd : o.guard = none) (ho : o.op = .call { callee := .builtin .append, args := #[s, y], argTypes := #[t, t] }) (hs : a.eval s = v) (hy : a.eval y = .slice (some ⟨wr.heap.size, 0, none⟩) 1 1)
    (h : ∀ g cap w', w'.ownsRow base e 1 (.slice (some ⟨g, 0, none⟩) (n + 1) cap) (n + 1) ((xs ++ [x]).map (Value.int .u8)) → Below base wr w' → (∀ k, k < wr.heap.size → some k ≠ v.ownBlock → w'.heap[k]? = wr.heap[k]?) → wpList P ops Q rest (a.put o.dst (.slice (some ⟨g, 0, none⟩) (n + 1) cap)) w') :
    wpList P ops Q (o :: rest) a (wr.alloc (.cells #[.int .u8 x] e)) := by
  refine wpList_append_lies _ hgd s y t ho base e i (.int .u8 0) 1 1 ht hi hz hsize hby rfl (by decide) v n (xs.map (Value.int .u8)) hs (hown.alloc _) ⟨wr.heap.size, 0, none⟩ 1 1 [.int .u8 x] hy rfl ?_ (fun u hu => by simp at hu; subst hu; rfl) (by decide) (pushs_fit hn (by decide)).1 (pushs_fit hn (by decide)).2 (by simp; omega) _ rfl ?_
  · exact World.news_of_block (cs := #[.int .u8 x]) (heap_alloc_new wr _)
  · intro g cap w' h1 h2 _ _
    refine h g cap w' (by simpa using h1) (((Below.refl _ _).alloc hbase _).grown h2 (by simp; omega) fun k hk => (hown.lt k hk).1) fun k hk hne => ?_
    rw [h2.block k (by simp; omega) hne]
    exact Below.heap_alloc _ _ _ hk

/-- One byte. -/
theorem step_push {ops : Array Oper} {o : Oper} {a : Act} {K : Act → World → Prop} {Q : Exit → Act → World → Prop} {E : Prop} (hi : P.info? e = some i) (hz : i.zero = some (.int .u8 0)) (hsize : i.size = 1) (hby : i.bytes = 1)
    (s y : Operand) (t : TypeId) (ht : P.underlying t = some (.slice e)) (x : Int) (hown : wr.ownsRow base e 1 v n (xs.map (Value.int .u8))) (hn : n ≤ 1099511627776) (hbase : base ≤ wr.heap.size)
    (hgd : o.guard = none) (ho : o.op = .call { callee := .builtin .append, args := #[s, y], argTypes := #[t, t] }) (hs : a.eval s = v) (hy : a.eval y = .slice (some ⟨wr.heap.size, 0, none⟩) 1 1)
    (h : ∀ g cap w', w'.ownsRow base e 1 (.slice (some ⟨g, 0, none⟩) (n + 1) cap) (n + 1) ((xs ++ [x]).map (Value.int .u8)) → Below base wr w' → K (a.put o.dst (.slice (some ⟨g, 0, none⟩) (n + 1) cap)) w') :
    if Region.wanted o (yielded ops a.tmps) = true then Oper.wp P o a (wr.alloc (.cells #[.int .u8 x] e)).drew K Q else E :=
  step_pushs hi hz hsize hby s y t ht #[.int .u8 x] [x] rfl (by simp) (by simp) hown hn hbase hgd ho hs hy h

theorem list_push {ops : Array Oper} {rest : List Oper} {o : Oper} {a : Act} {Q : Exit → Act → World → Prop} (hi : P.info? e = some i) (hz : i.zero = some (.int .u8 0)) (hsize : i.size = 1) (hby : i.bytes = 1)
    (s y : Operand) (t : TypeId) (ht : P.underlying t = some (.slice e)) (x : Int) (hown : wr.ownsRow base e 1 v n (xs.map (Value.int .u8))) (hn : n ≤ 1099511627776) (hbase : base ≤ wr.heap.size)
    (hgd : o.guard = none) (ho : o.op = .call { callee := .builtin .append, args := #[s, y], argTypes := #[t, t] }) (hs : a.eval s = v) (hy : a.eval y = .slice (some ⟨wr.heap.size, 0, none⟩) 1 1)
    (h : ∀ g cap w', w'.ownsRow base e 1 (.slice (some ⟨g, 0, none⟩) (n + 1) cap) (n + 1) ((xs ++ [x]).map (Value.int .u8)) → Below base wr w' → wpList P ops Q rest (a.put o.dst (.slice (some ⟨g, 0, none⟩) (n + 1) cap)) w') :
    wpList P ops Q (o :: rest) a (wr.alloc (.cells #[.int .u8 x] e)) :=
  list_pushs hi hz hsize hby s y t ht #[.int .u8 x] [x] rfl (by simp) (by simp) hown hn hbase hgd ho hs hy h
end

end Go.Proofs.Ytkkaipeklbhliaa
