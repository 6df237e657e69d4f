/-
  Plain facts on worlds and lists of bytes for the proofs of this seat: what a row of bytes that the call made reads as, that it stays behind calls that make memory of their own, and what is stored into it. Conditions: none beyond each fact's own.
  The byte's row of the program's table of types.
  An item that comes in as an argument, by its cells: a text, two numbers, a row of bytes. Conditions: none but that it can be read.
  What the laws' helper eqByteS does, whatever bytes it is given: it compares; no condition but that a length is an int's.
  What the laws' helper toByteS does, whatever bytes it is given: it copies them; condition: at most 1048576 bytes.
  What the laws' helpers that mark bytes do: markByteS lays its marks, heldByteS finds them; conditions: at most 2^40 bytes, marks from 0 to 2^40.
  The program's copied: a copy of bytes. Condition: bytes that lie there.
  The cells of a block of one's own: what lies there, behind stores into it and behind what else is done. No condition beyond each fact's own.
  The laws' own functions of an item: its size, a copy, whether two are the same; conditions: bytes that lie there.
  Rows of items of one's own: what lies there, that it stays, one of them told anew. Conditions: none beyond each fact's own.
  The laws' own copy of a list of items. Conditions: items that lie there, as many as a law hands over.
-/
import Derived.WalkKit
import Derived.ProofKit
import Derived.WalkSpells
import Derived.OpenShut
import Derived.Laws.BytesArg
import Derived.Deep.QuietTactic
import Derived.BigQuiet
import Derived.Deep.AppendLies
import Derived.Lib.OthersKept
import Derived.Laws.RangeAny
import Derived.Deep.RegionLaw
import Derived.Test.YtkdbcplcpcdnbaaChecked
import Derived.Lib.SmallJoins
import Derived.Deep.Slices
import Derived.Test.YtkdbcplcpcdnbaaRows
import Derived.Laws.CopyOwn
import Derived.OneCell
namespace Go.Proofs.Ytkdbcplcpcdnbaa
open Go.RowKit
set_option maxRecDepth 100000

/-- The bytes xs lie in a slice of n elements at p; of one that has none nothing is said. -/
def BytesIn (w : World) (p : Option Addr) (n : Nat) (xs : List Int) : Prop :=
  0 < n → ∃ b o, p = some ⟨b, o, none⟩ ∧ ∀ i, i < n → w.cell? ⟨b, o + i, none⟩ = some (.int .u8 (xs.getD i 0))

/-- The text of a slice of bytes. -/
theorem text_of {P : Program} {w : World} {p : Option Addr} {n : Nat} {xs : List Int} (h : BytesIn w p n xs) (hx : xs.length = n) (c : Nat) (src e dst : TypeId)
    (hs : P.underlying src = some (.slice e)) (he : P.underlying e = some (.int .u8)) (hd : P.underlying dst = some .string) :
    (convert src dst (.slice p n c)).run P w = .ok (.string (strOfNums xs)) w := by
  rcases Nat.eq_zero_or_pos n with hn | hn
  · subst hn
    obtain rfl : xs = [] := List.eq_nil_of_length_eq_zero hx
    rw [run_convert_bytes_string w src dst e _ 0 c hs he hd]
    cases p <;> simp [Conv.bytesToString, loadCells]
    all_goals rfl
  · obtain ⟨b, o, rfl, hc⟩ := h hn
    exact run_convert_bytes_arg (P := P) w src e hs he b o n c xs hx hc dst hd

theorem below_drewN {B : Nat} {a w : World} (h : Below B a w) (n : Nat) : Below B a (w.drewN n) := h.trans ⟨rfl, rfl, rfl, Nat.le_refl _, fun _ _ => rfl⟩

/-- One step more. -/
theorem below_on {a w w' : World} (h : Below a.heap.size a w) (k : Below w.heap.size w w') : Below a.heap.size a w' := h.trans (k.mono h.size)

/-- Two texts of bytes are one just where the bytes are. -/
theorem text_eq {xs ys : List Int} (hx : ∀ x ∈ xs, 0 ≤ x ∧ x < 256) (hy : ∀ y ∈ ys, 0 ≤ y ∧ y < 256) : (strOfNums xs).data.toList = (strOfNums ys).data.toList ↔ xs = ys := by
  rw [strOfNums_data, strOfNums_data]
  constructor
  · intro h
    induction xs generalizing ys with
    | nil => cases ys with
      | nil => rfl
      | cons y ys => simp at h
    | cons x xs ih => cases ys with
      | nil => simp at h
      | cons y ys =>
        simp only [List.map_cons, List.cons.injEq] at h
        have h1 := hx x (by simp)
        have h2 := hy y (by simp)
        have e : x = y := by
          have := congrArg UInt8.toNat h.1
          simp at this
          omega
        rw [e, ih (fun z hz => hx z (by simp [hz])) (fun z hz => hy z (by simp [hz])) h.2]
  · intro h; rw [h]

/-- What a row owns it owns behind a step that turned nothing old. -/
theorem owns_below {w w' : World} {base e size : Nat} {v : Value} {n : Nat} {xs : List Value} (h : w.ownsRow base e size v n xs) (hb : Below w.heap.size w w') : w'.ownsRow base e size v n xs :=
  h.kept (row := none) ⟨hb.os, hb.tape, hb.output, hb.size, fun k hk _ => hb.block k hk⟩ (by cases v.ownBlock <;> simp)

theorem owns_mono {w : World} {base base' e size : Nat} {v : Value} {n : Nat} {xs : List Value} (h : w.ownsRow base e size v n xs) (hb : base' ≤ base) : w.ownsRow base' e size v n xs := by
  refine ⟨h.1, ?_⟩
  rcases h.2 with hn | ⟨g, cap, cur, hv, hbg, rest⟩
  · exact .inl hn
  · exact .inr ⟨g, cap, cur, hv, Nat.le_trans hb hbg, rest⟩

/-- The same, where the step turned nothing below B and the row lies below B. -/
theorem owns_below' {w w' : World} {B base e size : Nat} {v : Value} {n : Nat} {xs : List Value} (h : w.ownsRow base e size v n xs) (hb : Below B w w') (hB : ∀ k, v.ownBlock = some k → k < B) : w'.ownsRow base e size v n xs := by
  refine ⟨h.1, ?_⟩
  rcases h.2 with hn | ⟨g, cap, cur, rfl, hbg, hgg, rest⟩
  · exact .inl hn
  · refine .inr ⟨g, cap, cur, rfl, hbg, ?_, rest⟩
    rw [hb.block g (hB g rfl)]
    exact hgg

/-- What a row of bytes that the call owns reads as. -/
theorem owns_in {w : World} {base e : Nat} {p : Option Addr} {n c : Nat} {xs : List Int} (h : w.ownsRow base e 1 (.slice p n c) n (xs.map (Value.int .u8))) : BytesIn w p n xs := by
  intro hn
  rcases h.2 with ⟨_, h0⟩ | ⟨g, cap, cur, hv, _, _⟩
  · omega
  · simp only [Value.slice.injEq] at hv
    obtain ⟨rfl, _, rfl⟩ := hv
    refine ⟨g, 0, rfl, fun i hi => ?_⟩
    have hl := h.1
    simp only [List.length_map, Nat.mul_one] at hl
    have := h.cellAt i (by omega)
    simp only [Nat.zero_add]
    rw [this]
    simp [List.getElem?_eq_getElem (show i < xs.length by omega), List.getD]

/-- What lies somewhere lies there behind a step that turned nothing old. -/
theorem in_below {w w' : World} {p : Option Addr} {n : Nat} {xs : List Int} (h : BytesIn w p n xs) (hb : Below w.heap.size w w') : BytesIn w' p n xs := by
  intro hn
  obtain ⟨b, o, rfl, hc⟩ := h hn
  refine ⟨b, o, rfl, fun i hi => ?_⟩
  have hlt : b < w.heap.size := World.block_lt_of_cell? w ⟨b, o + i, none⟩ (hc i hi)
  rw [hb.cell (p := ⟨b, o + i, none⟩) hlt]
  exact hc i hi

theorem owns_len {w : World} {base e : Nat} {v : Value} {n : Nat} {xs : List Int} (h : w.ownsRow base e 1 v n (xs.map (Value.int .u8))) : xs.length = n := by
  have := h.1; simpa using this

/-- The shape of what is owned. -/
theorem owns_form {w : World} {base e size : Nat} {v : Value} {n : Nat} {xs : List Value} (h : w.ownsRow base e size v n xs) : ∃ p c, v = .slice p n c := by
  rcases h.2 with ⟨rfl, rfl⟩ | ⟨g, cap, cur, rfl, _⟩
  · exact ⟨_, _, rfl⟩
  · exact ⟨_, _, rfl⟩

/-- One byte more of xs in the place of a nought. -/
theorem fill_step (xs : List Int) (n k : Nat) (u : Int) (hu : u = xs.getD k 0) (hk : k < n) (hx : xs.length = n) :
    ((xs.take k ++ List.replicate (n - k) 0).map (Value.int .u8)).set k (.int .u8 u) = (xs.take (k + 1) ++ List.replicate (n - (k + 1)) 0).map (Value.int .u8) := by
  subst hu
  simp only [List.getD_eq_getElem?_getD]
  apply List.ext_getElem
  · simp; omega
  · intro i h1 h2
    simp only [List.getElem_set, List.getElem_map]
    simp at h1 h2
    by_cases e : k = i
    · subst e
      simp [List.getElem_append, hx, hk]
      intro h; omega
    · simp only [e, if_false]
      by_cases hi : i < k
      · simp [List.getElem_append, hx]
        rw [dif_pos (by omega), dif_pos (by omega)]
      · simp [List.getElem_append, hx]
        rw [dif_neg (by omega), dif_neg (by omega)]

theorem fill_old (xs : List Int) (n k : Nat) (hk : k < n) (hx : xs.length = n) : ((xs.take k ++ List.replicate (n - k) 0).map (Value.int .u8))[k]? = some (.int .u8 0) := by
  rw [List.getElem?_eq_getElem (by simp; omega)]
  simp [List.getElem_append, hx]
  intro h; omega

theorem fill_start (xs : List Int) (n : Nat) : (madeCells #[Value.int .u8 0] n).toList = (xs.take 0 ++ List.replicate (n - 0) 0).map (Value.int .u8) := by
  rw [toList_madeCells_one]
  simp

theorem fill_end (xs : List Int) (n : Nat) (hx : xs.length = n) : (xs.take n ++ List.replicate (n - n) 0) = xs := by
  subst hx; simp

/-- Two lists that are one up to k are one up to k + 1 just where they have one element there. -/
theorem take_more {xs ys : List Int} {n k : Nat} (hx : xs.length = n) (hy : ys.length = n) (hk : k < n) (h : xs.take k = ys.take k) (e : xs.getD k 0 = ys.getD k 0) : xs.take (k + 1) = ys.take (k + 1) := by
  rw [List.take_succ_eq_append_getElem (by omega), List.take_succ_eq_append_getElem (by omega), h]
  simp [List.getElem?_eq_getElem (show k < xs.length by omega), List.getElem?_eq_getElem (show k < ys.length by omega)] at e
  rw [e]

theorem take_less {xs ys : List Int} {k : Nat} (e : xs.getD k 0 ≠ ys.getD k 0) : xs ≠ ys := fun h => e (by rw [h])

theorem take_all {xs ys : List Int} {n : Nat} (hx : xs.length = n) (hy : ys.length = n) (h : xs.take n = ys.take n) : xs = ys := by
  rwa [List.take_of_length_le (by omega), List.take_of_length_le (by omega)] at h

/-- WHAT THE WALK IS TOLD OF A SLICE OF BYTES THAT CAME IN, in this seat's words: the first len of its numbers lie there, each a byte. -/
theorem row_in {w : World} {a : Option Addr} {len cap : Nat} {zs : List Int}
    (h : (a = none ∧ len = 0 ∧ cap = 0 ∧ zs = []) ∨ ∃ x, a = some x ∧ len ≤ cap ∧ cap ≤ maxLen ∧ zs.length = cap ∧ (∀ i, i < zs.length → w.cell? (x.add i) = some (.int .u8 (zs.getD i 0))) ∧ ∀ n ∈ zs, (Lit.int .u8 n).wf = true) :
    (zs.take len).length = len ∧ BytesIn w a len (zs.take len) ∧ ∀ x ∈ zs.take len, 0 ≤ x ∧ x < 256 := by
  rcases h with ⟨rfl, rfl, rfl, rfl⟩ | ⟨x, rfl, hl, hm, hz, hcell, hwz⟩
  · exact ⟨rfl, fun h => absurd h (Nat.lt_irrefl 0), fun x hx => by simp at hx⟩
  · refine ⟨by simp; omega, fun hn => ?_, fun y hy => ?_⟩
    · obtain ⟨b, off, spot⟩ := x
      have hc := hcell 0 (by omega)
      have hspot : spot = none := by simpa [Addr.add] using World.cell?_spot hc
      subst hspot
      refine ⟨b, off, rfl, fun i hi => ?_⟩
      have := hcell i (by omega)
      rw [Addr.add_lit] at this
      rw [this]
      simp [hi]
    · have := bounds_u8 (hwz y (List.mem_of_mem_take hy))
      omega

/-- What is laid by markByteS from k on. -/
def marks (k : Int) (n : Nat) : List Int := (List.range n).map fun (i : Nat) => (k + (i : Int)) % 256

theorem marks_length (k : Int) (n : Nat) : (marks k n).length = n := by simp [marks]

theorem marks_getD (k : Int) (n i : Nat) (h : i < n) : (marks k n).getD i 0 = (k + (i : Int)) % 256 := by simp [marks, h]

theorem marks_step (k : Int) (xs : List Int) (n j : Nat) (u : Int) (hu : u = (k + (j : Int)) % 256) (hj : j < n) (hx : xs.length = n) :
    ((marks k j ++ xs.drop j).map (Value.int .u8)).set j (.int .u8 u) = (marks k (j + 1) ++ xs.drop (j + 1)).map (Value.int .u8) := by
  subst hu
  have e : xs.drop j = xs[j]'(by omega) :: xs.drop (j + 1) := List.drop_eq_getElem_cons (by omega)
  have m : marks k (j + 1) = marks k j ++ [(k + (j : Int)) % 256] := by simp [marks, List.range_succ]
  rw [e, m, List.map_append, List.map_cons, List.set_append_right _ _ (by simp [marks_length])]
  simp [marks_length]

theorem marks_old (k : Int) (xs : List Int) (n j : Nat) (hj : j < n) (hx : xs.length = n) : ∃ u, ((marks k j ++ xs.drop j).map (Value.int .u8))[j]? = some (.int .u8 u) := by
  refine ⟨(marks k j ++ xs.drop j)[j]'(by simp [marks_length]; omega), ?_⟩
  rw [List.getElem?_eq_getElem (by simp [marks_length]; omega), List.getElem_map]

theorem marks_end (k : Int) (xs : List Int) (n : Nat) (hx : xs.length = n) : marks k n ++ xs.drop n = marks k n := by
  rw [List.drop_of_length_le (by omega), List.append_nil]

theorem grown_trans {a b c : World} {row : Option Nat} (h : a.grownBy b row) (k : b.grownBy c row) : a.grownBy c row :=
  ⟨k.os.trans h.os, k.tape.trans h.tape, k.output.trans h.output, Nat.le_trans h.size k.size, fun i hi hr => (k.block i (Nat.lt_of_lt_of_le hi h.size) hr).trans (h.block i hi hr)⟩

/-- Where a row that is owned has elements it stands at a block's head. -/
theorem owns_at {w : World} {base e : Nat} {p : Option Addr} {n c : Nat} {xs : List Value} (h : w.ownsRow base e 1 (.slice p n c) n xs) (hn : 0 < n) : ∃ g, p = some ⟨g, 0, none⟩ := by
  rcases h.2 with ⟨_, h0⟩ | ⟨g, cap, cur, hv, _⟩
  · omega
  · simp only [Value.slice.injEq] at hv
    exact ⟨g, hv.1⟩

/-- A string's iterator that is moved on turns no row. -/
theorem owns_iter {w : World} {base e size : Nat} {v : Value} {n : Nat} {xs : List Value} (h : w.ownsRow base e size v n xs) {k : Nat} {s : ByteArray} {pos : Nat} (hk : w.heap[k]? = some (.stringIter s pos)) (pos' : Nat) : (w.iterAt k s pos').ownsRow base e size v n xs := by
  refine ⟨h.1, ?_⟩
  rcases h.2 with hn | ⟨g, cap, cur, hv, hbg, hg, rest⟩
  · exact .inl hn
  · refine .inr ⟨g, cap, cur, hv, hbg, ?_, rest⟩
    have hne : g ≠ k := by
      intro e1
      rw [e1, hk] at hg
      cases hg
    rw [Lib.iterAt_other w k g s pos' hne]
    exact hg

/-- The iterator's block is no row's. -/
theorem iter_not_own {w : World} {base e size : Nat} {v : Value} {n : Nat} {xs : List Value} (h : w.ownsRow base e size v n xs) {k : Nat} {s : ByteArray} {pos : Nat} (hk : w.heap[k]? = some (.stringIter s pos)) : some k ≠ v.ownBlock := by
  rcases h.2 with ⟨rfl, _⟩ | ⟨g, cap, cur, rfl, _, hg, _⟩
  · simp [Value.ownBlock]
  · simp only [Value.ownBlock, ne_eq, Option.some.injEq]
    intro e1
    subst e1
    rw [hk] at hg
    cases hg

/-- A row of bytes xs that the call made: v, of n elements; its block lies from lo on and ahead of hi. -/
def Own (e : Nat) (w : World) (lo hi : Nat) (v : Value) (n : Nat) (xs : List Int) : Prop := w.ownsRow lo e 1 v n (xs.map (Value.int .u8)) ∧ ∀ k, v.ownBlock = some k → k < hi

section
variable {e : Nat} {w w' a : World} {lo hi lo' hi' : Nat} {u v : Value} {n m : Nat} {xs ys : List Int}

theorem Own.of (h : w.ownsRow lo e 1 v n (xs.map (Value.int .u8))) : Own e w lo w.heap.size v n xs := ⟨h, fun k hk => (h.lt k hk).2⟩
theorem Own.on (h : Own e w lo hi v n xs) (hb : Below w.heap.size w w') : Own e w' lo hi v n xs := ⟨owns_below h.1 hb, h.2⟩
theorem Own.far (h : Own e w lo hi v n xs) (hg : w.grownBy w' u.ownBlock) (hu : Own e w lo' hi' u m ys) (hd : hi ≤ lo' ∨ hi' ≤ lo) : Own e w' lo hi v n xs := by
  refine ⟨h.1.kept hg ?_, h.2⟩
  rcases hv : v.ownBlock with _ | k
  · exact .inl rfl
  · right
    intro he
    have h1 := h.2 k hv
    have h2 := (h.1.lt k hv).1
    have h3 := hu.2 k he.symm
    have h4 := (hu.1.lt k he.symm).1
    omega
theorem Own.len (h : Own e w lo hi v n xs) : xs.length = n := owns_len h.1
theorem Own.bytes {p : Option Addr} {c : Nat} (h : Own e w lo hi (.slice p n c) n xs) : BytesIn w p n xs := owns_in h.1
theorem below_mark (h : Below a.heap.size a w) (hg : w.grownBy w' u.ownBlock) (hu : Own e w lo' hi' u m ys) (hlo : a.heap.size ≤ lo') : Below a.heap.size a w' :=
  h.grown hg h.size fun k hk => Nat.le_trans hlo (hu.1.lt k hk).1
end

section
variable {P : Program} {e : TypeId} {i : TypeInfo} {base n : Nat} {wr : World} {v : Value} {xs : List Int}

theorem pushs_fit {m : Nat} (hn : n ≤ 1099511627776) (hm : m ≤ 1099511627776) : n + m ≤ maxLen ∧ (n + m) * 1 ≤ 140737488355328 := by unfold maxLen; omega

/-- 'append(out, x, y, ..)' of some bytes, out a row that the call owns, as one step of a region that draws its order. -/
theorem step_pushs {ops : Array Oper} {o : Oper} {a : Act} {K : Act → World → Prop} {Q : Exit → Act → World → Prop} {E : Prop} (hi : P.info? e = some i) (hz : i.zero = some (.int .u8 0)) (hsize : i.size = 1) (hby : i.bytes = 1)
    (s y : Operand) (t : TypeId) (ht : P.underlying t = some (.slice e)) (cs : Array Value) (ys : List Int) (hcs : cs.toList = ys.map (Value.int .u8)) (hm : 0 < ys.length) (hm' : ys.length ≤ 1099511627776)
    (hown : wr.ownsRow base e 1 v n (xs.map (Value.int .u8))) (hn : n ≤ 1099511627776) (hbase : base ≤ wr.heap.size)
    (hgd : o.guard = none) (ho : o.op = .call { callee := .builtin .append, args := #[s, y], argTypes := #[t, t] }) (hs : a.eval s = v) (hy : a.eval y = .slice (some ⟨wr.heap.size, 0, none⟩) ys.length ys.length)
    (h : ∀ g cap w', w'.ownsRow base e 1 (.slice (some ⟨g, 0, none⟩) (n + ys.length) cap) (n + ys.length) ((xs ++ ys).map (Value.int .u8)) → Below base wr w' → K (a.put o.dst (.slice (some ⟨g, 0, none⟩) (n + ys.length) cap)) w') :
    if Region.wanted o (yielded ops a.tmps) = true then Oper.wp P o a (wr.alloc (.cells cs e)).drew K Q else E := by
  refine step_append_lies _ hgd s y t ho base e i (.int .u8 0) 1 1 ht hi hz hsize hby rfl (by decide) v n (xs.map (Value.int .u8)) hs (hown.alloc _).drew ⟨wr.heap.size, 0, none⟩ ys.length ys.length (ys.map (Value.int .u8)) hy (by simp) ?_ (ints_oneCell _ _) hm (pushs_fit hn hm').1 (pushs_fit hn hm').2 (by simp; omega) _ rfl ?_
  · rw [← hcs]
    exact World.news_of_block (cs := cs) (heap_alloc_new wr _)
  · intro g cap w' h1 h2 _ _
    refine h g cap w' (by simpa using h1) (((Below.refl _ _).alloc hbase _).drew.grown h2 (by simp; omega) fun k hk => (hown.lt k hk).1)

/-- The same in a plain region. -/
theorem list_pushs {ops : Array Oper} {rest : List Oper} {o : Oper} {a : Act} {Q : Exit → Act → World → Prop} (hi : P.info? e = some i) (hz : i.zero = some (.int .u8 0)) (hsize : i.size = 1) (hby : i.bytes = 1)
    (s y : Operand) (t : TypeId) (ht : P.underlying t = some (.slice e)) (cs : Array Value) (ys : List Int) (hcs : cs.toList = ys.map (Value.int .u8)) (hm : 0 < ys.length) (hm' : ys.length ≤ 1099511627776)
    (hown : wr.ownsRow base e 1 v n (xs.map (Value.int .u8))) (hn : n ≤ 1099511627776) (hbase : base ≤ wr.heap.size)
    (hgd : o.guard = none) (ho : o.op = .call { callee := .builtin .append, args := #[s, y], argTypes := #[t, t] }) (hs : a.eval s = v) (hy : a.eval y = .slice (some ⟨wr.heap.size, 0, none⟩) ys.length ys.length)
    (h : ∀ g cap w', w'.ownsRow base e 1 (.slice (some ⟨g, 0, none⟩) (n + ys.length) cap) (n + ys.length) ((xs ++ ys).map (Value.int .u8)) → Below base wr w' → wpList P ops Q rest (a.put o.dst (.slice (some ⟨g, 0, none⟩) (n + ys.length) cap)) w') :
    wpList P ops Q (o :: rest) a (wr.alloc (.cells cs e)) := by
  refine wpList_append_lies _ hgd s y t ho base e i (.int .u8 0) 1 1 ht hi hz hsize hby rfl (by decide) v n (xs.map (Value.int .u8)) hs (hown.alloc _) ⟨wr.heap.size, 0, none⟩ ys.length ys.length (ys.map (Value.int .u8)) hy (by simp) ?_ (ints_oneCell _ _) hm (pushs_fit hn hm').1 (pushs_fit hn hm').2 (by simp; omega) _ rfl ?_
  · rw [← hcs]
    exact World.news_of_block (cs := cs) (heap_alloc_new wr _)
  · intro g cap w' h1 h2 _ _
    refine h g cap w' (by simpa using h1) (((Below.refl _ _).alloc hbase _).grown h2 (by simp; omega) fun k hk => (hown.lt k hk).1)

/-- One byte in a plain region, and every other block stays as it was. -/
theorem list_pushK {ops : Array Oper} {rest : List Oper} {o : Oper} {a : Act} {Q : Exit → Act → World → Prop} (hi : P.info? e = some i) (hz : i.zero = some (.int .u8 0)) (hsize : i.size = 1) (hby : i.bytes = 1)
    (s y : Operand) (t : TypeId) (ht : P.underlying t = some (.slice e)) (x : Int) (hown : wr.ownsRow base e 1 v n (xs.map (Value.int .u8))) (hn : n ≤ 1099511627776) (hbase : base ≤ wr.heap.size)
    (hgd : o.guard = none) (ho : o.op = .call { callee := .builtin .append, args := #[s, y], argTypes := #[t, t] }) (hs : a.eval s = v) (hy : a.eval y = .slice (some ⟨wr.heap.size, 0, none⟩) 1 1)
    (h : ∀ g cap w', w'.ownsRow base e 1 (.slice (some ⟨g, 0, none⟩) (n + 1) cap) (n + 1) ((xs ++ [x]).map (Value.int .u8)) → Below base wr w' → (∀ k, k < wr.heap.size → some k ≠ v.ownBlock → w'.heap[k]? = wr.heap[k]?) → wpList P ops Q rest (a.put o.dst (.slice (some ⟨g, 0, none⟩) (n + 1) cap)) w') :
    wpList P ops Q (o :: rest) a (wr.alloc (.cells #[.int .u8 x] e)) := by
  refine wpList_append_lies _ hgd s y t ho base e i (.int .u8 0) 1 1 ht hi hz hsize hby rfl (by decide) v n (xs.map (Value.int .u8)) hs (hown.alloc _) ⟨wr.heap.size, 0, none⟩ 1 1 [.int .u8 x] hy rfl ?_ (fun u hu => by simp at hu; subst hu; rfl) (by decide) (pushs_fit hn (by decide)).1 (pushs_fit hn (by decide)).2 (by simp; omega) _ rfl ?_
  · exact World.news_of_block (cs := #[.int .u8 x]) (heap_alloc_new wr _)
  · intro g cap w' h1 h2 _ _
    refine h g cap w' (by simpa using h1) (((Below.refl _ _).alloc hbase _).grown h2 (by simp; omega) fun k hk => (hown.lt k hk).1) fun k hk hne => ?_
    rw [h2.block k (by simp; omega) hne]
    exact Below.heap_alloc _ _ _ hk

/-- One byte. -/
theorem step_push {ops : Array Oper} {o : Oper} {a : Act} {K : Act → World → Prop} {Q : Exit → Act → World → Prop} {E : Prop} (hi : P.info? e = some i) (hz : i.zero = some (.int .u8 0)) (hsize : i.size = 1) (hby : i.bytes = 1)
    (s y : Operand) (t : TypeId) (ht : P.underlying t = some (.slice e)) (x : Int) (hown : wr.ownsRow base e 1 v n (xs.map (Value.int .u8))) (hn : n ≤ 1099511627776) (hbase : base ≤ wr.heap.size)
    (hgd : o.guard = none) (ho : o.op = .call { callee := .builtin .append, args := #[s, y], argTypes := #[t, t] }) (hs : a.eval s = v) (hy : a.eval y = .slice (some ⟨wr.heap.size, 0, none⟩) 1 1)
    (h : ∀ g cap w', w'.ownsRow base e 1 (.slice (some ⟨g, 0, none⟩) (n + 1) cap) (n + 1) ((xs ++ [x]).map (Value.int .u8)) → Below base wr w' → K (a.put o.dst (.slice (some ⟨g, 0, none⟩) (n + 1) cap)) w') :
    if Region.wanted o (yielded ops a.tmps) = true then Oper.wp P o a (wr.alloc (.cells #[.int .u8 x] e)).drew K Q else E :=
  step_pushs hi hz hsize hby s y t ht #[.int .u8 x] [x] rfl (by simp) (by simp) hown hn hbase hgd ho hs hy h

theorem list_push {ops : Array Oper} {rest : List Oper} {o : Oper} {a : Act} {Q : Exit → Act → World → Prop} (hi : P.info? e = some i) (hz : i.zero = some (.int .u8 0)) (hsize : i.size = 1) (hby : i.bytes = 1)
    (s y : Operand) (t : TypeId) (ht : P.underlying t = some (.slice e)) (x : Int) (hown : wr.ownsRow base e 1 v n (xs.map (Value.int .u8))) (hn : n ≤ 1099511627776) (hbase : base ≤ wr.heap.size)
    (hgd : o.guard = none) (ho : o.op = .call { callee := .builtin .append, args := #[s, y], argTypes := #[t, t] }) (hs : a.eval s = v) (hy : a.eval y = .slice (some ⟨wr.heap.size, 0, none⟩) 1 1)
    (h : ∀ g cap w', w'.ownsRow base e 1 (.slice (some ⟨g, 0, none⟩) (n + 1) cap) (n + 1) ((xs ++ [x]).map (Value.int .u8)) → Below base wr w' → wpList P ops Q rest (a.put o.dst (.slice (some ⟨g, 0, none⟩) (n + 1) cap)) w') :
    wpList P ops Q (o :: rest) a (wr.alloc (.cells #[.int .u8 x] e)) :=
  list_pushs hi hz hsize hby s y t ht #[.int .u8 x] [x] rfl (by simp) (by simp) hown hn hbase hgd ho hs hy h
end

end Go.Proofs.Ytkdbcplcpcdnbaa

namespace Go.Proofs.Ytkdbcplcpcdnbaa
open Go.RowKit
set_option maxRecDepth 100000

theorem infoByte : (Try.prog.info? 5).map (fun i => (i.zero, i.size, i.bytes)) = some (some (.int .u8 0), 1, 1) := by kernel_rfl

end Go.Proofs.Ytkdbcplcpcdnbaa

namespace Go.Proofs.Ytkdbcplcpcdnbaa
open Go.ChangeShapes Go.WideShapes Go.RowKit
set_option maxRecDepth 100000

/-- An item as it lies: its text, its topic, until when, its bytes' slice and these bytes. -/
structure ItA where
  s : ByteArray
  t : Int
  d : Int
  p : Option Addr
  n : Nat
  c : Nat
  xs : List Int
instance : Inhabited ItA := ⟨⟨ByteArray.empty, 0, 0, none, 0, 0, []⟩⟩
def ItA.vals (x : ItA) : List Value := [.string x.s, .int .i64 x.t, .int .i64 x.d, .slice x.p x.n x.c]

/-- What may be said of an item that can be read. -/
structure ItA.Ok (w : World) (x : ItA) : Prop where
  hs : x.s.size ≤ 9223372036854775807
  ht : -9223372036854775808 ≤ x.t ∧ x.t ≤ 9223372036854775807
  hd : -9223372036854775808 ≤ x.d ∧ x.d ≤ 9223372036854775807
  hn : x.n ≤ 9223372036854775807
  len : x.xs.length = x.n
  bytes : BytesIn w x.p x.n x.xs
  byte : ∀ y ∈ x.xs, 0 ≤ y ∧ y < 256

theorem ItA.Ok.on {w w' : World} {x : ItA} (h : x.Ok w) (b : Below w.heap.size w w') : x.Ok w' := ⟨h.hs, h.ht, h.hd, h.hn, h.len, in_below h.bytes b, h.byte⟩

/-- The cells of an item that can be read. -/
theorem item_cells {H : Type} {enc : TypeId × Value → H} {w : World} {base : Nat} {spare : Nat → Bool} {held : Bool} {fuel : Nat} {u0 u1 u2 u3 : Value} {y0 y1 y2 y3 : DataW H × List MemPlace}
    (t0 : DataW.trod enc Try.prog w base spare held fuel 9 [u0] = some y0) (t1 : DataW.trod enc Try.prog w base spare held fuel 3 [u1] = some y1) (t2 : DataW.trod enc Try.prog w base spare held fuel 3 [u2] = some y2) (t3 : DataW.trod enc Try.prog w base spare held fuel 22 [u3] = some y3) :
    ∃ x : ItA, [u0, u1, u2, u3] = x.vals ∧ x.Ok w := by
  obtain ⟨s, e0, _, hs⟩ := DataW.trod_string Try.underlying9 t0
  obtain ⟨t, e1, _, ht⟩ := DataW.trod_int Try.underlying3 t1
  obtain ⟨d, e2, _, hd⟩ := DataW.trod_int Try.underlying3 t2
  simp only [List.cons.injEq, and_true] at e0 e1 e2
  subst e0 e1 e2
  have ht' : -9223372036854775808 ≤ t ∧ t ≤ 9223372036854775807 := bounds_i64 ht
  have hd' : -9223372036854775808 ≤ d ∧ d ≤ 9223372036854775807 := bounds_i64 hd
  have hs' : s.size ≤ 9223372036854775807 := by unfold maxLen at hs; omega
  rcases open_ints Try.underlying22 Try.underlying5 (by kernel_rfl) t3 with ⟨hcs, _⟩ | ⟨a, l, c, zs, hcs, _, hl, hm, hz, _, hcell, hwz⟩
  · simp only [List.cons.injEq, and_true] at hcs
    subst hcs
    exact ⟨⟨s, t, d, none, 0, 0, []⟩, rfl, ⟨hs', ht', hd', by show 0 ≤ _; omega, rfl, fun h => absurd h (Nat.lt_irrefl 0), fun y hy => by simp at hy⟩⟩
  · simp only [List.cons.injEq, and_true] at hcs
    subst hcs
    have hle : l ≤ zs.length := by rw [hz]; split <;> omega
    refine ⟨⟨s, t, d, some a, l, c, zs.take l⟩, rfl, ⟨hs', ht', hd', by show l ≤ _; unfold maxLen at hm; omega, by show (zs.take l).length = l; simp; omega, ?_, ?_⟩⟩
    · intro hn
      show ∃ b o, some a = some ⟨b, o, none⟩ ∧ ∀ i, i < l → _
      replace hn : 0 < l := hn
      obtain ⟨b, off, spot⟩ := a
      have hsp : spot = none := by simpa [Addr.add] using World.cell?_spot (hcell 0 (by omega))
      subst hsp
      refine ⟨b, off, rfl, fun i hi => ?_⟩
      have := hcell i (by omega)
      rw [Addr.add_lit] at this
      rw [this]
      simp [hi]
    · intro y hy
      have := bounds_u8 (hwz y (List.mem_of_mem_take hy))
      omega

/-- The items its lie in a slice of n elements at p. -/
def ItemsIn (w : World) (p : Option Addr) (n : Nat) (its : List ItA) : Prop :=
  0 < n → ∃ b o, p = some ⟨b, o, none⟩ ∧ ∀ i j v, i < n → (its.getD i default).vals[j]? = some v → w.cell? ⟨b, o + i * 4 + j, none⟩ = some v

theorem itemsIn_on {w w' : World} {p : Option Addr} {n : Nat} {its : List ItA} (h : ItemsIn w p n its) (hb : Below w.heap.size w w') : ItemsIn w' p n its := by
  intro hn
  obtain ⟨b, o, rfl, hc⟩ := h hn
  refine ⟨b, o, rfl, fun i j v hi hv => ?_⟩
  have hlt : b < w.heap.size := World.block_lt_of_cell? w ⟨b, o + i * 4 + j, none⟩ (hc i j v hi hv)
  rw [hb.cell (p := ⟨b, o + i * 4 + j, none⟩) hlt]
  exact hc i j v hi hv

end Go.Proofs.Ytkdbcplcpcdnbaa

namespace Go.Proofs.Ytkdbcplcpcdnbaa
open Go.RowKit
set_option maxRecDepth 100000

/-- eqByteS: are the two lists one? -/
theorem eq_len (p q : Option Addr) (n m c d : Nat) (w : World) (hne : n ≠ m) :
    Calls Try.prog 34 #[.slice p n c, .slice q m d] w fun e w' => e = .returned (.bool false) ∧ Below w.heap.size w w' := by
  have hd : ((n : Int) != (m : Int)) = true := by simp; omega
  go_enter Try.func34, Try.ntmps34
  go_wp2
  go_ret
  exact ⟨rfl, Below.refl _ _⟩

set_option maxHeartbeats 1000000 in
theorem eq_same (p q : Option Addr) (n c d : Nat) (xs ys : List Int) (w : World) (hn : n ≤ 9223372036854775807) (hx : xs.length = n) (hy : ys.length = n) (h : BytesIn w p n xs) (h' : BytesIn w q n ys) :
    Calls Try.prog 34 #[.slice p n c, .slice q n d] w fun e w' => e = .returned (.bool (decide (xs = ys))) ∧ Below w.heap.size w w' := by
  have hd : ((n : Int) != (n : Int)) = false := by simp
  go_enter Try.func34, Try.ntmps34
  go_wp2
  go_loopw [5] (fun i wr => ∃ k : Nat, k ≤ n ∧ i = .int .i64 k ∧ Hid (xs.take k = ys.take k) ∧ ∃ m, wr = w.drewN m) (fun i _ => n - (intOf i).toNat)
  case atStart => exact ⟨0, Nat.zero_le _, rfl, by simp [Hid], 0, rfl⟩
  case round =>
    obtain ⟨k, hk, rfl, hsame, m, rfl⟩ := hrel
    by_cases hlt : k < n
    · obtain ⟨b, o, rfl, hc⟩ := h (by omega)
      obtain ⟨b', o', rfl, hc'⟩ := h' (by omega)
      have h1 := hc k hlt
      have h2 := hc' k hlt
      obtain ⟨u, hu⟩ : ∃ u, u = xs.getD k 0 := ⟨_, rfl⟩
      obtain ⟨v, hv⟩ : ∃ v, v = ys.getD k 0 := ⟨_, rfl⟩
      rw [← hu] at h1
      rw [← hv] at h2
      clear hc hc' h h'
      by_cases huv : u = v
      · subst huv
        have hd2 : (u != u) = false := by simp
        have hmore : Hid (xs.take (k + 1) = ys.take (k + 1)) := take_more hx hy hlt hsame (by rw [← hu, ← hv])
        clear hu hv hsame
        go_wp2
        go_quiet (fail)
        go_wp2
        go_roundw
        case rel => exact ⟨k + 1, by omega, by go_num, hmore, _, rfl⟩
        case measure => simp [intOf]; omega
      · have hd2 : (u != v) = true := by simpa using huv
        have hne : Hid (decide (xs = ys) = false) := by have := take_less (k := k) (xs := xs) (ys := ys) (by rw [← hu, ← hv]; exact huv); simpa [Hid] using this
        clear hu hv hsame huv
        go_wp2
        go_quiet (fail)
        go_wp2
        go_ret
        rw [hne.out, World.drewN_drewN]
        exact ⟨rfl, below_drewN (Below.refl _ _) _⟩
    · have hkn : k = n := by omega
      subst hkn
      have hall : Hid (decide (xs = ys) = true) := by simpa [Hid] using take_all hx hy hsame
      clear hsame
      go_wp2
      go_ret
      rw [hall.out]
      exact ⟨rfl, below_drewN (Below.refl _ _) _⟩

theorem eqByteS_any (p q : Option Addr) (n m c d : Nat) (xs ys : List Int) (w : World) (hn : n ≤ 9223372036854775807) (hx : xs.length = n) (hy : ys.length = m) (h : BytesIn w p n xs) (h' : BytesIn w q m ys) :
    Calls Try.prog 34 #[.slice p n c, .slice q m d] w fun e w' => e = .returned (.bool (decide (xs = ys))) ∧ Below w.heap.size w w' := by
  by_cases hnm : n = m
  · subst hnm
    exact eq_same p q n c d xs ys w hn hx hy h h'
  · have : decide (xs = ys) = false := by
      simp only [decide_eq_false_iff_not]
      intro e
      subst e
      omega
    rw [this]
    exact eq_len p q n m c d w hnm

end Go.Proofs.Ytkdbcplcpcdnbaa

namespace Go.Proofs.Ytkdbcplcpcdnbaa
open Go.RowKit
set_option maxRecDepth 100000

set_option maxHeartbeats 1000000 in
theorem toByteS_any (p : Option Addr) (n c : Nat) (xs : List Int) (w : World) (hn : n ≤ 1048576) (hx : xs.length = n) (h : BytesIn w p n xs) :
    Calls Try.prog 62 #[.slice p n c] w fun e w' => e = .returned (.slice (some ⟨w.heap.size, 0, none⟩) n n) ∧
      w'.ownsRow w.heap.size 5 1 (.slice (some ⟨w.heap.size, 0, none⟩) n n) n (xs.map (Value.int .u8)) ∧ Below w.heap.size w w' := by
  obtain ⟨i0, hi, hz0, hz1, hz2⟩ := info_parts infoByte
  go_enter Try.func62, Try.ntmps62
  go_wp2_with (at_make; refine wpList_make_full _ rfl _ _ 22 rfl w.heap.size 5 i0 (.int .u8 0) 1 Try.underlying22 hi hz0 hz1 _ _ _ _ n rfl rfl rfl rfl ?b2 ?b3 ?b4 ?_)
  case b2 => rw [hz2]; omega
  case b3 => unfold maxLen; omega
  case b4 => exact Nat.le_refl _
  intro w1 hown hgrow
  rw [fill_start xs n] at hown
  have hbel : Below w.heap.size w w1 := (Below.refl _ _).grown hgrow (Nat.le_refl _) (fun _ h => by cases h)
  clear hgrow
  go_wp2
  go_loopw [4] (fun i wr => ∃ k : Nat, k ≤ n ∧ i = .int .i64 k ∧ wr.ownsRow w.heap.size 5 1 (.slice (some ⟨w.heap.size, 0, none⟩) n n) n ((xs.take k ++ List.replicate (n - k) 0).map (Value.int .u8)) ∧ Below w.heap.size w wr)
    (fun i _ => n - (intOf i).toNat)
  case atStart => exact ⟨0, Nat.zero_le _, rfl, hown, hbel⟩
  case round =>
    clear hown hbel
    obtain ⟨k, hk, rfl, hown, hbel⟩ := hrel
    by_cases hlt : k < n
    · obtain ⟨b, o, rfl, hc⟩ := h (by omega)
      obtain ⟨u, hu⟩ : ∃ u, u = xs.getD k 0 := ⟨_, rfl⟩
      have hcx : wr.cell? ⟨b, o + k, none⟩ = some (.int .u8 u) := by
        rw [hbel.cell (p := ⟨b, o + k, none⟩) (World.block_lt_of_cell? w ⟨b, o + k, none⟩ (hc k hlt)), hu]
        exact hc k hlt
      have hold : wr.cell? ⟨w.heap.size, k, none⟩ = some (.int .u8 0) := by
        rw [hown.cellAt k (by omega)]; exact fill_old xs n k hlt hx
      have hfz := hown.frozenAt k
      have hst := hown.stored k (.int .u8 u)
      rw [fill_step xs n k u hu hlt hx] at hst
      have hbel' := hbel.setCell (p := ⟨w.heap.size, k, none⟩) (Nat.le_refl _) (.int .u8 u)
      clear hc h hu
      go_wp2
      go_roundw
      case rel => exact ⟨k + 1, by omega, by go_num, hst.1, hbel'⟩
      case measure => simp [intOf]; omega
    · have hkn : k = n := by omega
      subst hkn
      go_wp2
      go_ret
      rw [fill_end xs k hx] at hown
      exact ⟨rfl, hown, hbel⟩

theorem toByteS_own (p : Option Addr) (n c : Nat) (xs : List Int) (w : World) (hn : n ≤ 1048576) (hx : xs.length = n) (h : BytesIn w p n xs) :
    Calls Try.prog 62 #[.slice p n c] w fun e w' => ∃ p' c', e = .returned (.slice p' n c') ∧ Own 5 w' w.heap.size w'.heap.size (.slice p' n c') n xs ∧ Below w.heap.size w w' :=
  (toByteS_any p n c xs w hn hx h).mono fun _ _ ⟨h1, h2, h3⟩ => ⟨_, _, h1, .of h2, h3⟩

end Go.Proofs.Ytkdbcplcpcdnbaa

namespace Go.Proofs.Ytkdbcplcpcdnbaa
open Go.RowKit
set_option maxRecDepth 100000

set_option maxHeartbeats 1000000 in
theorem markByteS_any (base : Nat) (p : Option Addr) (n c : Nat) (xs : List Int) (k : Int) (w : World) (hn : n ≤ 1099511627776) (hk : 0 ≤ k) (hk2 : k ≤ 1099511627776)
    (h : w.ownsRow base 5 1 (.slice p n c) n (xs.map (Value.int .u8))) :
    Calls Try.prog 36 #[.slice p n c, .int .i64 k] w fun e w' => e = .returned (.int .i64 (k + n)) ∧
      w'.ownsRow base 5 1 (.slice p n c) n ((marks k n).map (Value.int .u8)) ∧ w.grownBy w' (Value.ownBlock (.slice p n c)) := by
  have hx := owns_len h
  go_enter Try.func36, Try.ntmps36
  go_wp2
  go_loopw [1, 5] (fun q i wr => ∃ j : Nat, j ≤ n ∧ i = .int .i64 j ∧ q = .int .i64 (k + j) ∧ wr.ownsRow base 5 1 (.slice p n c) n ((marks k j ++ xs.drop j).map (Value.int .u8)) ∧ w.grownBy wr (Value.ownBlock (.slice p n c)))
    (fun _ i _ => n - (intOf i).toNat)
  case atStart => exact ⟨0, Nat.zero_le _, rfl, by simp, by simpa [marks] using h, World.grownBy.refl _ _⟩
  case round =>
    clear h
    obtain ⟨j, hj, rfl, rfl, hown, hgr⟩ := hrel
    by_cases hlt : j < n
    · obtain ⟨g, rfl⟩ := owns_at hown (by omega)
      obtain ⟨v, hv⟩ := marks_old k xs n j hlt hx
      have hold : wr.cell? ⟨g, j, none⟩ = some (.int .u8 v) := by
        rw [hown.cellAt j (by omega)]; exact hv
      have hfz := hown.frozenAt j
      clear hv
      have hst := hown.stored j (.int .u8 ((k + (j : Int)) % 256))
      rw [marks_step k xs n j _ rfl hlt hx] at hst
      go_wp2
      go_roundw
      case rel => exact ⟨j + 1, by omega, by go_num, by go_num, hst.1, grown_trans hgr hst.2⟩
      case measure => simp [intOf]; omega
    · have hjn : j = n := by omega
      subst hjn
      rw [marks_end k xs j hx] at hown
      go_wp2
      go_ret
      exact ⟨rfl, hown, hgr⟩

set_option maxHeartbeats 1000000 in
theorem heldByteS_any (p : Option Addr) (n c : Nat) (k : Int) (w : World) (hn : n ≤ 1099511627776) (hk : 0 ≤ k) (hk2 : k ≤ 1099511627776)
    (h : BytesIn w p n (marks k n)) :
    Calls Try.prog 37 #[.slice p n c, .int .i64 k] w fun e w' => e = .returned (.int .i64 (k + n)) ∧ Below w.heap.size w w' := by
  go_enter Try.func37, Try.ntmps37
  go_wp2
  go_loop [1, 5] (fun q i => ∃ j : Nat, j ≤ n ∧ i = .int .i64 j ∧ q = .int .i64 (k + j)) (fun _ i => n - (intOf i).toNat)
  case atStart => exact ⟨0, Nat.zero_le _, rfl, by simp⟩
  case round =>
    obtain ⟨j, hj, rfl, rfl⟩ := hrel
    by_cases hlt : j < n
    · obtain ⟨b, o, rfl, hc⟩ := h (by omega)
      have h1 := hc j hlt
      rw [marks_getD k n j hlt] at h1
      have hd : ((k + (j : Int)) % 256 != (k + (j : Int)) % 256) = false := by simp
      clear hc h
      go_wp2
      go_round
      case rel => exact ⟨j + 1, by omega, by go_num, by go_num⟩
      case measure => simp [intOf]; omega
    · have hjn : j = n := by omega
      subst hjn
      go_wp2
      go_ret
      exact ⟨rfl, Below.refl _ _⟩

theorem markByteS_own (lo hi : Nat) (p : Option Addr) (n c : Nat) (xs : List Int) (k : Int) (w : World) (hn : n ≤ 1099511627776) (hk : 0 ≤ k) (hk2 : k ≤ 1099511627776)
    (h : Own 5 w lo hi (.slice p n c) n xs) :
    Calls Try.prog 36 #[.slice p n c, .int .i64 k] w fun e w' => e = .returned (.int .i64 (k + n)) ∧
      Own 5 w' lo hi (.slice p n c) n (marks k n) ∧ w.grownBy w' (Value.ownBlock (.slice p n c)) :=
  (markByteS_any lo p n c xs k w hn hk hk2 h.1).mono fun _ _ ⟨h1, h2, h3⟩ => ⟨h1, ⟨h2, h.2⟩, h3⟩

end Go.Proofs.Ytkdbcplcpcdnbaa

namespace Go.Proofs.Ytkdbcplcpcdnbaa
open Go.RowKit
set_option maxRecDepth 100000

theorem heap_made (w : World) (o : Obj) : (w.alloc o).heap[w.heap.size]? = some o := by
  show (w.heap.push o)[w.heap.size]? = some o
  simp
theorem made_below (w : World) (o : Obj) {w' : World} (b : Below (w.alloc o).heap.size (w.alloc o) w') : Below w.heap.size w w' :=
  ((Below.refl _ _).alloc (Nat.le_refl _) o).trans (b.mono (by simp))

theorem makeM (Z : Nat) (hZ : Z ≤ 16777216) (W : World) : (Instr.makeSlice 22 (.int .i64 (Z : Int)) (.int .i64 (Z : Int))).run Try.prog W = .ok (.slice (some ⟨W.heap.size, 0, none⟩) Z Z) (W.alloc (.cells (madeCells #[.int .u8 0] Z) 5)) := by
  obtain ⟨i0, hi, hz0, hz1, hz2⟩ := info_parts infoByte
  have := run_makeSlice (P := Try.prog) W 22 5 i0 (.int .u8 0) Try.underlying22 hi hz0 .i64 .i64 Z Z (by omega) (by omega) (by rw [hz1]; simp; omega) (by rw [hz2]; omega) (by omega)
  simpa [hz1, Value.cells] using this
/-- A row that is made, as a list. -/
def noughtV (Z : Nat) : List Value := List.replicate Z (.int .u8 0)
theorem noughtV_length (Z : Nat) : (noughtV Z).length = Z := by simp [noughtV]
theorem madeM (Z : Nat) : madeCells #[Value.int .u8 0] Z = (noughtV Z).toArray := by
  have e : (madeCells #[Value.int .u8 0] Z).toList = noughtV Z := toList_madeCells_one _ _
  rw [← e]
/-- A row that is known whole is owned. -/
theorem row_own {w : World} {lo g n : Nat} {xs : List Int} (hg : w.heap[g]? = some (.cells (xs.map (Value.int .u8)).toArray 5 (0, 0))) (hlo : lo ≤ g) (hx : xs.length = n) (hn : n ≤ 1099511627) : Own 5 w lo w.heap.size (.slice (some ⟨g, 0, none⟩) n n) n xs :=
  .of ⟨by simp [hx], .inr ⟨g, n, _, rfl, hlo, hg, Nat.le_refl _, by unfold maxLen; omega, by simp [hx], by simp [hx, List.take_of_length_le]⟩⟩
/-- The cells of bytes, where there are some. -/
theorem in_cells {w : World} {p : Option Addr} {n : Nat} {xs : List Int} (h : BytesIn w p n xs) (hx : xs.length = n) (h0 : 0 < (xs.map (Value.int .u8)).length) : ∃ ad, p = some ad ∧ ∀ j v, (xs.map (Value.int .u8))[j]? = some v → w.cell? (ad.add j) = some v := by
  obtain ⟨b, o, rfl, hc⟩ := h (by simpa [hx] using h0)
  refine ⟨⟨b, o, none⟩, rfl, fun j v hv => ?_⟩
  rw [List.getElem?_map] at hv
  obtain ⟨u, hu, rfl⟩ := Option.map_eq_some_iff.1 hv
  have hj := (List.getElem?_eq_some_iff.1 hu).1
  rw [Addr.add_lit, hc j (by omega), List.getD_eq_getElem?_getD, hu]
  rfl
theorem u8_one (xs : List Int) : ∀ v ∈ xs.map (Value.int .u8), v.oneCell' = true := fun v hv => by
  obtain ⟨u, _, rfl⟩ := List.mem_map.1 hv
  rfl

set_option maxHeartbeats 2000000 in
theorem copied_any (p : Option Addr) (n c : Nat) (xs : List Int) (w : World) (hn : n ≤ 1048576) (hx : xs.length = n) (h : BytesIn w p n xs) :
    Calls Try.prog 82 #[.slice p n c] w fun e w' => ∃ p' c', e = .returned (.slice p' n c') ∧ Own 5 w' w.heap.size w'.heap.size (.slice p' n c') n xs ∧ Below w.heap.size w w' := by
  obtain ⟨i0, hi, hz0, hz1, hz2⟩ := info_parts infoByte
  have hs5 : (Try.prog.info? 5).map (·.size) = some 1 := by rw [hi]; simp [hz1]
  have hmk := fun W => makeM n (by omega) W
  rw [madeM] at hmk
  have ba : ∀ o, Below w.heap.size w (w.alloc o) := fun o => made_below _ _ (Below.refl _ _)
  have hrow : (w.alloc (.cells (noughtV n).toArray 5)).heap[w.heap.size]? = some (.cells (noughtV n).toArray 5 (0, 0)) := heap_made _ _
  obtain ⟨Z, hZ⟩ : ∃ Z, Z = noughtV n := ⟨_, rfl⟩
  have hZl : Z.length = n := by rw [hZ, noughtV_length]
  rw [← hZ] at hmk hrow
  obtain ⟨V, hV⟩ : ∃ V, V = xs.map (Value.int .u8) := ⟨_, rfl⟩
  have hVl : V.length = n := by rw [hV]; simpa using hx
  have hpos : ∀ X, Below w.heap.size w X → 0 < V.length → ∃ ad, p = some ad ∧ ∀ j v, V[j]? = some v → X.cell? (ad.add j) = some v := fun X hX h0 => by rw [hV] at h0 ⊢; exact in_cells (in_below h hX) hx h0
  have hone : ∀ v ∈ V, v.oneCell' = true := by rw [hV]; exact u8_one xs
  have hfin : Hid (splice Z 0 V = V) := by
    show splice Z 0 V = V
    rw [splice, List.take_zero, List.nil_append, Nat.zero_add, List.drop_of_length_le (by omega), List.append_nil]
  replace hV : Hid (V = xs.map (Value.int .u8)) := hV
  clear hZ hi hz0 hz1 hz2 h
  go_enter Try.func82, Try.ntmps82
  go_wp2_with (refine wpList_copy_splice (by rfl) (.tmp 7) (.tmp 8) 22 22 (by rfl) 5 Try.underlying22 hs5 (some ⟨w.heap.size, 0, none⟩) p n n n c (by rfl) (by rfl) w.heap.size 0 Z 5 hrow V (by rw [hVl]; exact (Nat.min_self n).symm) (fun h0 => ⟨rfl, hpos _ (ba _) h0⟩) (by omega) hone w.heap.size w (ba _) (Nat.le_refl _) ?_; intro w2 hg2 hb2)
  go_ret
  have hg3 := hg2.out
  rw [hfin.out, hV.out] at hg3
  exact ⟨_, _, rfl, row_own hg3 (Nat.le_refl _) hx (by omega), hb2⟩

end Go.Proofs.Ytkdbcplcpcdnbaa

namespace Go.Proofs.Ytkdbcplcpcdnbaa
open Go.RowKit
set_option maxRecDepth 100000

/-- The cells of a block of one's own. -/
def Cells (w : World) (g : Nat) (A : Array Value) : Prop := g < w.heap.size ∧ ∀ i, w.cell? ⟨g, i, none⟩ = A[i]? ∧ w.frozen? ⟨g, i, none⟩ = false
theorem Cells.made (w : World) (A : Array Value) (T : TypeId) : Cells (w.alloc (.cells A T)) w.heap.size A := by
  have e := heap_made w (.cells A T)
  refine ⟨by simp, fun i => ⟨by simp only [World.cell?, e]; rfl, ?_⟩⟩
  simp only [World.frozen?, e]
  simp
theorem Cells.on {w w' : World} {g : Nat} {A : Array Value} (h : Cells w g A) (b : Below w.heap.size w w') : Cells w' g A :=
  ⟨Nat.lt_of_lt_of_le h.1 b.size, fun i => ⟨(b.cell h.1).trans (h.2 i).1, (b.frozen h.1).trans (h.2 i).2⟩⟩
theorem Cells.other {w : World} {g : Nat} {A : Array Value} (h : Cells w g A) {a : Addr} (v : Value) (ha : g ≠ a.block) : Cells (w.setCell a v) g A := by
  have e := Below.heap_setCell w a v g ha
  refine ⟨by simpa using h.1, fun i => ⟨?_, ?_⟩⟩
  · rw [← (h.2 i).1]; exact World.cell?_of_block (w := w) e
  · rw [← (h.2 i).2]; exact World.frozen?_of_block (w := w) e
theorem Cells.set {w : World} {g : Nat} {A : Array Value} (h : Cells w g A) (k : Nat) (hk : k < A.size) (v : Value) : Cells (w.setCell ⟨g, k, none⟩ v) g (A.setIfInBounds k v) := by
  refine ⟨by simpa using h.1, fun i => ⟨?_, ?_⟩⟩
  · by_cases e : k = i
    · subst e
      rw [World.cell?_setCell_same w _ _ (by rw [(h.2 k).1]; exact Array.getElem?_eq_getElem hk)]
      simp [hk]
    · rw [World.cell?_setCell_other _ _ _ _ (by intro x; simp only [Addr.mk.injEq] at x; omega), (h.2 i).1, Array.getElem?_setIfInBounds_ne e]
  · rw [World.frozen?_setCell]; exact (h.2 i).2
theorem Cells.grown {w w' : World} {g : Nat} {A : Array Value} {r : Option Nat} (h : Cells w g A) (hg : w.grownBy w' r) (hr : some g ≠ r) : Cells w' g A := by
  have e := hg.block g h.1 hr
  exact ⟨Nat.lt_of_lt_of_le h.1 hg.size, fun i => ⟨(World.cell?_of_block (w := w) e).trans (h.2 i).1, (World.frozen?_of_block (w := w) e).trans (h.2 i).2⟩⟩

theorem Own.set_below {e : Nat} {w : World} {lo hi : Nat} {v : Value} {n : Nat} {xs : List Int} (h : Own e w lo hi v n xs) {a : Addr} (ha : a.block < lo) (u : Value) : Own e (w.setCell a u) lo hi v n xs := ⟨ownsRow_setCell_below h.1 ha u, h.2⟩

theorem set_grown (w : World) (R i : Nat) (v : Value) : w.grownBy (w.setCell ⟨R, i, none⟩ v) (some R) := ⟨rfl, rfl, rfl, by simp [World.setCell], fun k _ hk => Below.heap_setCell _ _ _ k (fun e => hk (by rw [e]))⟩
theorem drew_grown (w : World) (r : Option Nat) : w.grownBy w.drew r := ⟨rfl, rfl, rfl, Nat.le_refl _, fun _ _ _ => rfl⟩

end Go.Proofs.Ytkdbcplcpcdnbaa

namespace Go.Proofs.Ytkdbcplcpcdnbaa
open Go.RowKit
set_option maxRecDepth 100000

theorem szByteS_any (p : Option Addr) (n c : Nat) (l : Int) (w : World) (hn : n ≤ 9223372036854775807) (hl : 0 ≤ l ∧ l ≤ 1048576) :
    Calls Try.prog 60 #[.slice p n c, .int .i64 l] w fun e w' => e = .returned (.int .i64 (if (n : Int) ≤ l then l - n else -1)) ∧ Below w.heap.size w w' := by
  by_cases h : (n : Int) ≤ l
  · rw [if_pos h]
    go_enter Try.func60, Try.ntmps60
    go_wp2_with (fail)
    go_ret
    exact ⟨rfl, .refl _ _⟩
  · rw [if_neg h]
    go_enter Try.func60, Try.ntmps60
    go_wp2_with (fail)
    go_ret
    exact ⟨rfl, .refl _ _⟩

theorem below_drewL {a w : World} (h : Below a.heap.size a w) : Below a.heap.size a w.drew := h.drew

theorem str_ne {s s' : ByteArray} (h : s ≠ s') : (s.toList == s'.toList) = false := by
  rw [beq_eq_false_iff_ne]
  intro e
  rw [ByteArray.toList_eq, ByteArray.toList_eq] at e
  exact h (ByteArray.ext (Array.toList_inj.1 e))

/-- What is left of a room by an item. -/
def szI (s : ByteArray) (n : Nat) (l : Int) : Int := if (s.size : Int) + n ≤ l then l - s.size - n else -1

end Go.Proofs.Ytkdbcplcpcdnbaa

namespace Go.Proofs.Ytkdbcplcpcdnbaa
open Go.RowKit
set_option maxRecDepth 100000

def ItA.slice (x : ItA) : Value := .slice x.p x.n x.c
/-- What an item says. -/
def ItA.con (x : ItA) : ByteArray × Int × Int × List Int := (x.s, x.t, x.d, x.xs)
theorem ItA.vals_length (x : ItA) : x.vals.length = 4 := rfl
def flatI (its : List ItA) : List Value := its.flatMap ItA.vals
theorem flatI_length (its : List ItA) : (flatI its).length = its.length * 4 := by
  induction its with
  | nil => rfl
  | cons x r ih => simp only [flatI, List.flatMap_cons, List.length_append] at *; rw [ih, ItA.vals_length]; simp; omega
theorem flatI_cons (x : ItA) (r : List ItA) : flatI (x :: r) = x.vals ++ flatI r := by simp [flatI]
theorem flatI_append (a b : List ItA) : flatI (a ++ b) = flatI a ++ flatI b := by simp [flatI]
theorem flatI_at (its : List ItA) (i j : Nat) (hj : j < 4) (hi : i < its.length) : (flatI its)[i * 4 + j]? = (its.getD i default).vals[j]? := by
  induction its generalizing i with
  | nil => simp at hi
  | cons x r ih =>
    rw [flatI_cons]
    cases i with
    | zero => rw [List.getElem?_append_left (by rw [ItA.vals_length]; omega)]; simp
    | succ i =>
      rw [List.getElem?_append_right (by rw [ItA.vals_length]; omega), ItA.vals_length, show (i + 1) * 4 + j - 4 = i * 4 + j by omega, ih i (by simpa using hi)]
      simp
theorem flatI_set (its : List ItA) (i : Nat) (x : ItA) (hi : i < its.length) :
    ((((flatI its).set (i * 4) (.string x.s)).set (i * 4 + 1) (.int .i64 x.t)).set (i * 4 + 2) (.int .i64 x.d)).set (i * 4 + 3) (.slice x.p x.n x.c) = flatI (its.set i x) := by
  induction its generalizing i with
  | nil => simp at hi
  | cons y r ih =>
    cases i with
    | zero => simp [flatI_cons, ItA.vals]
    | succ i =>
      have := ih i (by simpa using hi)
      rw [List.set_cons_succ, flatI_cons, flatI_cons, ← this]
      have e : ∀ (l : List Value) (k : Nat) (v : Value), (y.vals ++ l).set ((i + 1) * 4 + k) v = y.vals ++ l.set (i * 4 + k) v := fun l k v => by
        rw [List.set_append_right _ _ (by rw [ItA.vals_length]; omega), ItA.vals_length, show (i + 1) * 4 + k - 4 = i * 4 + k by omega]
      have e0 := fun l v => e l 0 v
      simp only [Nat.add_zero] at e0
      rw [e0, e, e, e]

/-- A row of items of one's own, in blocks from lo to below hi; each one's bytes are a row of its own. -/
structure OwnItems (w : World) (lo hi : Nat) (v : Value) (n : Nat) (its : List ItA) : Prop where
  len : its.length = n
  row : w.ownsRow lo 26 4 v n (flatI its)
  top : ∀ k, v.ownBlock = some k → k < hi
  bytes : ∀ x ∈ its, Own 5 w lo hi x.slice x.n x.xs
  apart : ∀ x ∈ its, x.slice.ownBlock = none ∨ x.slice.ownBlock ≠ v.ownBlock
  pair : its.Pairwise (fun x y => x.slice.ownBlock = none ∨ x.slice.ownBlock ≠ y.slice.ownBlock)

theorem OwnItems.on {w w' : World} {lo hi : Nat} {v : Value} {n : Nat} {its : List ItA} (h : OwnItems w lo hi v n its) (b : Below w.heap.size w w') : OwnItems w' lo hi v n its :=
  ⟨h.len, owns_below h.row b, h.top, fun x hx => (h.bytes x hx).on b, h.apart, h.pair⟩
theorem Own.wide {e : Nat} {w : World} {lo hi lo' hi' : Nat} {v : Value} {n : Nat} {xs : List Int} (h : Own e w lo hi v n xs) (h1 : lo' ≤ lo) (h2 : hi ≤ hi') : Own e w lo' hi' v n xs := ⟨owns_mono h.1 h1, fun k hk => Nat.lt_of_lt_of_le (h.2 k hk) h2⟩
theorem OwnItems.wide {w : World} {lo hi lo' hi' : Nat} {v : Value} {n : Nat} {its : List ItA} (h : OwnItems w lo hi v n its) (h1 : lo' ≤ lo) (h2 : hi ≤ hi') : OwnItems w lo' hi' v n its :=
  ⟨h.len, owns_mono h.row h1, fun k hk => Nat.lt_of_lt_of_le (h.top k hk) h2, fun x hx => (h.bytes x hx).wide h1 h2, h.apart, h.pair⟩
theorem OwnItems.items {w : World} {lo hi : Nat} {p : Option Addr} {c n : Nat} {its : List ItA} (h : OwnItems w lo hi (.slice p n c) n its) : ItemsIn w p n its := by
  intro hn
  rcases h.row.2 with ⟨_, h0⟩ | ⟨g, cap, cur, hv, _, _⟩
  · omega
  · simp only [Value.slice.injEq] at hv
    obtain ⟨rfl, _, rfl⟩ := hv
    refine ⟨g, 0, rfl, fun i j u hi hu => ?_⟩
    have hj : j < 4 := (List.getElem?_eq_some_iff.1 hu).1
    rw [Nat.zero_add, h.row.cellAt (i * 4 + j) (by omega), flatI_at its i j hj (by rw [h.len]; exact hi)]
    exact hu

/-- What is asked of an item beside where it lies. -/
structure ItA.Fit (x : ItA) : Prop where
  hs : x.s.size ≤ 1048576
  ht : -9223372036854775808 ≤ x.t ∧ x.t ≤ 9223372036854775807
  hd : -9223372036854775808 ≤ x.d ∧ x.d ≤ 9223372036854775807
  hn : x.xs.length ≤ 1048576
  byte : ∀ y ∈ x.xs, 0 ≤ y ∧ y < 256
theorem ItA.Fit.like {x y : ItA} (h : x.Fit) (e : y.con = x.con) : y.Fit := by
  obtain ⟨s, t, d, p, n, c, xs⟩ := x
  obtain ⟨s', t', d', p', n', c', xs'⟩ := y
  simp only [ItA.con, Prod.mk.injEq] at e
  obtain ⟨rfl, rfl, rfl, rfl⟩ := e
  exact ⟨h.hs, h.ht, h.hd, h.hn, h.byte⟩

/-- One item of the row told anew. -/
def setItem (w : World) (g k : Nat) (x : ItA) : World := (((w.setCell ⟨g, k * 4, none⟩ (.string x.s)).setCell ⟨g, k * 4 + 1, none⟩ (.int .i64 x.t)).setCell ⟨g, k * 4 + 2, none⟩ (.int .i64 x.d)).setCell ⟨g, k * 4 + 3, none⟩ (.slice x.p x.n x.c)
theorem setItem_grown (w : World) (g k : Nat) (x : ItA) : w.grownBy (setItem w g k x) (some g) :=
  (((set_grown w g _ _).trans (set_grown _ g _ _)).trans (set_grown _ g _ _)).trans (set_grown _ g _ _)
theorem setItem_row {w : World} {lo g n cap k : Nat} {its : List ItA} (x : ItA) (h : w.ownsRow lo 26 4 (.slice (some ⟨g, 0, none⟩) n cap) n (flatI its)) (hk : k < its.length) :
    (setItem w g k x).ownsRow lo 26 4 (.slice (some ⟨g, 0, none⟩) n cap) n (flatI (its.set k x)) := by
  rw [← flatI_set its k x hk]
  exact ((((h.stored (k * 4) _).1.stored (k * 4 + 1) _).1.stored (k * 4 + 2) _).1.stored (k * 4 + 3) _).1
theorem OwnItems.set {w : World} {lo hi g n cap k : Nat} {its : List ItA} {x : ItA} (h : OwnItems w lo hi (.slice (some ⟨g, 0, none⟩) n cap) n its) (hk : k < n) (ho : Own 5 w lo hi x.slice x.n x.xs)
    (hg : x.slice.ownBlock = none ∨ x.slice.ownBlock ≠ some g) (hap : ∀ y ∈ its, y.slice.ownBlock = none ∨ y.slice.ownBlock ≠ x.slice.ownBlock) : OwnItems (setItem w g k x) lo hi (.slice (some ⟨g, 0, none⟩) n cap) n (its.set k x) := by
  have hgr := setItem_grown w g k x
  have mem : ∀ y ∈ its.set k x, y ∈ its ∨ y = x := fun y hy => List.mem_or_eq_of_mem_set hy
  have sym : ∀ y ∈ its, x.slice.ownBlock = none ∨ x.slice.ownBlock ≠ y.slice.ownBlock := fun y hy => by
    rcases hap y hy with e | e
    · rw [e]
      cases x.slice.ownBlock <;> simp
    · exact .inr (Ne.symm e)
  refine ⟨by simpa using h.len, setItem_row x h.row (by rw [h.len]; exact hk), h.top, fun y hy => ?_, fun y hy => ?_, ?_⟩
  · rcases mem y hy with hy | rfl
    · exact ⟨(h.bytes y hy).1.kept hgr (h.apart y hy), (h.bytes y hy).2⟩
    · exact ⟨ho.1.kept hgr hg, ho.2⟩
  · rcases mem y hy with hy | rfl
    · exact h.apart y hy
    · exact hg
  · rw [List.pairwise_iff_getElem]
    intro i j hi hj hij
    simp only [List.length_set] at hi hj
    rw [List.getElem_set, List.getElem_set]
    split
    · split
      · omega
      · exact sym _ (List.getElem_mem _)
    · split
      · exact hap _ (List.getElem_mem _)
      · exact (List.pairwise_iff_getElem.1 h.pair) i j hi hj hij

/-- What a store of an item into the row meets, cell by cell. -/
theorem store_item {w : World} {lo g n cap k : Nat} {its : List ItA} (x : ItA) (h : w.ownsRow lo 26 4 (.slice (some ⟨g, 0, none⟩) n cap) n (flatI its)) (hk : k < n) (hl : its.length = n) :
    (∃ u, w.cell? ⟨g, k * 4, none⟩ = some u) ∧ (∃ u, (w.setCell ⟨g, k * 4, none⟩ (.string x.s)).cell? ⟨g, k * 4 + 1, none⟩ = some u) ∧
    (∃ u, ((w.setCell ⟨g, k * 4, none⟩ (.string x.s)).setCell ⟨g, k * 4 + 1, none⟩ (.int .i64 x.t)).cell? ⟨g, k * 4 + 2, none⟩ = some u) ∧
    (∃ u, (((w.setCell ⟨g, k * 4, none⟩ (.string x.s)).setCell ⟨g, k * 4 + 1, none⟩ (.int .i64 x.t)).setCell ⟨g, k * 4 + 2, none⟩ (.int .i64 x.d)).cell? ⟨g, k * 4 + 3, none⟩ = some u) ∧
    w.frozen? ⟨g, k * 4, none⟩ = false ∧ (w.setCell ⟨g, k * 4, none⟩ (.string x.s)).frozen? ⟨g, k * 4 + 1, none⟩ = false ∧
    ((w.setCell ⟨g, k * 4, none⟩ (.string x.s)).setCell ⟨g, k * 4 + 1, none⟩ (.int .i64 x.t)).frozen? ⟨g, k * 4 + 2, none⟩ = false ∧
    (((w.setCell ⟨g, k * 4, none⟩ (.string x.s)).setCell ⟨g, k * 4 + 1, none⟩ (.int .i64 x.t)).setCell ⟨g, k * 4 + 2, none⟩ (.int .i64 x.d)).frozen? ⟨g, k * 4 + 3, none⟩ = false := by
  have h1 := (h.stored (k * 4) (.string x.s)).1
  have h2 := (h1.stored (k * 4 + 1) (.int .i64 x.t)).1
  have h3 := (h2.stored (k * 4 + 2) (.int .i64 x.d)).1
  have some_of : ∀ {l : List Value} {i : Nat}, i < l.length → ∃ u, l[i]? = some u := fun hi => ⟨_, List.getElem?_eq_getElem hi⟩
  have hf := flatI_length its
  refine ⟨?_, ?_, ?_, ?_, h.frozenAt _, h1.frozenAt _, h2.frozenAt _, h3.frozenAt _⟩
  · rw [h.cellAt _ (by omega)]; exact some_of (by omega)
  · rw [h1.cellAt _ (by omega)]; exact some_of (by simp only [List.length_set]; omega)
  · rw [h2.cellAt _ (by omega)]; exact some_of (by simp only [List.length_set]; omega)
  · rw [h3.cellAt _ (by omega)]; exact some_of (by simp only [List.length_set]; omega)

end Go.Proofs.Ytkdbcplcpcdnbaa

namespace Go.Proofs.Ytkdbcplcpcdnbaa
open Go.RowKit
set_option maxRecDepth 100000

theorem infoItem : (Try.prog.info? 26).map (fun i => (i.zero, i.size, i.bytes)) = some (some (.agg #[.string ByteArray.empty, .int .i64 0, .int .i64 0, .slice none 0 0]), 4, 56) := by kernel_rfl

theorem made_items (n : Nat) : (madeCells #[.string ByteArray.empty, .int .i64 0, .int .i64 0, .slice none 0 0] (n * 4)).toList = flatI (List.replicate n default) := by
  induction n with
  | zero => simp [madeCells, flatI]
  | succ n ih =>
    rw [List.replicate_succ', flatI_append, ← ih]
    simp only [madeCells, Array.toList_map, Array.toList_range]
    rw [show (n + 1) * 4 = n * 4 + 4 by omega, List.range_add, List.map_append]
    congr 1
    have e : ∀ k, (n * 4 + k) % 4 = k % 4 := fun k => by omega
    simp [flatI, ItA.vals, List.range_succ, default, e]

theorem noItems (w : World) (lo g n cap : Nat) (h : w.ownsRow lo 26 4 (.slice (some ⟨g, 0, none⟩) n cap) n (flatI (List.replicate n default))) : OwnItems w lo w.heap.size (.slice (some ⟨g, 0, none⟩) n cap) n (List.replicate n default) := by
  have e : ∀ x ∈ List.replicate n (default : ItA), x = default := fun x hx => (List.mem_replicate.1 hx).2
  refine ⟨by simp, h, fun k hk => (h.lt k hk).2, fun x hx => ?_, fun x hx => ?_, ?_⟩
  · rw [e x hx]
    exact ⟨World.ownsRow_nil _ _ _ _, fun k hk => by cases hk⟩
  · rw [e x hx]
    exact .inl rfl
  · rw [List.pairwise_iff_getElem]
    intro i j hi hj _
    left
    rw [List.getElem_replicate]
    rfl

end Go.Proofs.Ytkdbcplcpcdnbaa
