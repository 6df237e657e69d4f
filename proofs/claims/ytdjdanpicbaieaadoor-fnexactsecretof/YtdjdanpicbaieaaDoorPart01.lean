/-
  Plain facts on worlds and lists of bytes for the proofs of this seat: what a row of bytes that the call made reads as, that it stays behind calls that make memory of their own, and what is stored into it. Conditions: none beyond each fact's own.
  The byte's row of the program's table of types.
  What the laws' helper eqByteS does, whatever bytes it is given: it compares; no condition but that a length is an int's.
  What the laws' helper toByteS does, whatever bytes it is given: it copies them; condition: at most 1048576 bytes.
  What the laws' helpers that mark bytes do: markByteS lays its marks, heldByteS finds them; conditions: at most 2^40 bytes, marks from 0 to 2^40.
  Numbers for words of 32 bits: what is left by 2^32 and by 32 as the masks tell it, and a word turned left, as the two or's of its parts tell it; each at its own bounds.
  What spec.Word and impl.Word answer at every int: what is left by 2^32; no condition.
  What bits.RotateLeft32, spec.Turn and impl.Turn answer at every two ints: the word turned left by what is left of k by 32; no condition.
  Numbers for a hash: the mixes of a word, the choice and the majority as and, or and xor tell them, a round of the eight words, the words that a block is spread to; each at its own bounds.
-/
import Derived.WalkKit
import Derived.ProofKit
import Derived.WalkSpells
import Derived.OpenShut
import Derived.Laws.BytesArg
import Derived.Deep.QuietTactic
import Derived.BigQuiet
import Derived.Deep.AppendLies
import Derived.Lib.OthersKept
import Derived.Laws.RangeAny
import Derived.Deep.RegionLaw
import Derived.Test.YtdjdanpicbaieaaDoorChecked
namespace Go.Proofs.YtdjdanpicbaieaaDoor
open Go.RowKit

/-- The bytes xs lie in a slice of n elements at p; of one that has none nothing is said. -/
def BytesIn (w : World) (p : Option Addr) (n : Nat) (xs : List Int) : Prop :=
  0 < n → ∃ b o, p = some ⟨b, o, none⟩ ∧ ∀ i, i < n → w.cell? ⟨b, o + i, none⟩ = some (.int .u8 (xs.getD i 0))

/-- The text of a slice of bytes. -/
theorem text_of {P : Program} {w : World} {p : Option Addr} {n : Nat} {xs : List Int} (h : BytesIn w p n xs) (hx : xs.length = n) (c : Nat) (src e dst : TypeId)
    (hs : P.underlying src = some (.slice e)) (he : P.underlying e = some (.int .u8)) (hd : P.underlying dst = some .string) :
    (convert src dst (.slice p n c)).run P w = .ok (.string (strOfNums xs)) w := by
  rcases Nat.eq_zero_or_pos n with hn | hn
  · subst hn
    obtain rfl : xs = [] := List.eq_nil_of_length_eq_zero hx
    rw [run_convert_bytes_string w src dst e _ 0 c hs he hd]
    cases p <;> simp [Conv.bytesToString, loadCells]
    all_goals rfl
  · obtain ⟨b, o, rfl, hc⟩ := h hn
    exact run_convert_bytes_arg (P := P) w src e hs he b o n c xs hx hc dst hd

theorem below_drewN {B : Nat} {a w : World} (h : Below B a w) (n : Nat) : Below B a (w.drewN n) := h.trans ⟨rfl, rfl, rfl, Nat.le_refl _, fun _ _ => rfl⟩

/-- One step more. -/
theorem below_on {a w w' : World} (h : Below a.heap.size a w) (k : Below w.heap.size w w') : Below a.heap.size a w' := h.trans (k.mono h.size)

/-- Two texts of bytes are one just where the bytes are. -/
theorem text_eq {xs ys : List Int} (hx : ∀ x ∈ xs, 0 ≤ x ∧ x < 256) (hy : ∀ y ∈ ys, 0 ≤ y ∧ y < 256) : (strOfNums xs).data.toList = (strOfNums ys).data.toList ↔ xs = ys := by
  rw [strOfNums_data, strOfNums_data]
  constructor
  · intro h
    induction xs generalizing ys with
    | nil => cases ys with
      | nil => rfl
      | cons y ys => simp at h
    | cons x xs ih => cases ys with
      | nil => simp at h
      | cons y ys =>
        simp only [List.map_cons, List.cons.injEq] at h
        have h1 := hx x (by simp)
        have h2 := hy y (by simp)
        have e : x = y := by
          have := congrArg UInt8.toNat h.1
          simp at this
          omega
        rw [e, ih (fun z hz => hx z (by simp [hz])) (fun z hz => hy z (by simp [hz])) h.2]
  · intro h; rw [h]

/-- What a row owns it owns behind a step that turned nothing old. -/
theorem owns_below {w w' : World} {base e size : Nat} {v : Value} {n : Nat} {xs : List Value} (h : w.ownsRow base e size v n xs) (hb : Below w.heap.size w w') : w'.ownsRow base e size v n xs :=
  h.kept (row := none) ⟨hb.os, hb.tape, hb.output, hb.size, fun k hk _ => hb.block k hk⟩ (by cases v.ownBlock <;> simp)

theorem owns_mono {w : World} {base base' e size : Nat} {v : Value} {n : Nat} {xs : List Value} (h : w.ownsRow base e size v n xs) (hb : base' ≤ base) : w.ownsRow base' e size v n xs := by
  refine ⟨h.1, ?_⟩
  rcases h.2 with hn | ⟨g, cap, cur, hv, hbg, rest⟩
  · exact .inl hn
  · exact .inr ⟨g, cap, cur, hv, Nat.le_trans hb hbg, rest⟩

/-- The same, where the step turned nothing below B and the row lies below B. -/
theorem owns_below' {w w' : World} {B base e size : Nat} {v : Value} {n : Nat} {xs : List Value} (h : w.ownsRow base e size v n xs) (hb : Below B w w') (hB : ∀ k, v.ownBlock = some k → k < B) : w'.ownsRow base e size v n xs := by
  refine ⟨h.1, ?_⟩
  rcases h.2 with hn | ⟨g, cap, cur, rfl, hbg, hgg, rest⟩
  · exact .inl hn
  · refine .inr ⟨g, cap, cur, rfl, hbg, ?_, rest⟩
    rw [hb.block g (hB g rfl)]
    exact hgg

/-- What a row of bytes that the call owns reads as. -/
theorem owns_in {w : World} {base e : Nat} {p : Option Addr} {n c : Nat} {xs : List Int} (h : w.ownsRow base e 1 (.slice p n c) n (xs.map (Value.int .u8))) : BytesIn w p n xs := by
  intro hn
  rcases h.2 with ⟨_, h0⟩ | ⟨g, cap, cur, hv, _, _⟩
  · omega
  · simp only [Value.slice.injEq] at hv
    obtain ⟨rfl, _, rfl⟩ := hv
    refine ⟨g, 0, rfl, fun i hi => ?_⟩
    have hl := h.1
    simp only [List.length_map, Nat.mul_one] at hl
    have := h.cellAt i (by omega)
    simp only [Nat.zero_add]
    rw [this]
    simp [List.getElem?_eq_getElem (show i < xs.length by omega), List.getD]

/-- What lies somewhere lies there behind a step that turned nothing old. -/
theorem in_below {w w' : World} {p : Option Addr} {n : Nat} {xs : List Int} (h : BytesIn w p n xs) (hb : Below w.heap.size w w') : BytesIn w' p n xs := by
  intro hn
  obtain ⟨b, o, rfl, hc⟩ := h hn
  refine ⟨b, o, rfl, fun i hi => ?_⟩
  have hlt : b < w.heap.size := World.block_lt_of_cell? w ⟨b, o + i, none⟩ (hc i hi)
  rw [hb.cell (p := ⟨b, o + i, none⟩) hlt]
  exact hc i hi

theorem owns_len {w : World} {base e : Nat} {v : Value} {n : Nat} {xs : List Int} (h : w.ownsRow base e 1 v n (xs.map (Value.int .u8))) : xs.length = n := by
  have := h.1; simpa using this

/-- The shape of what is owned. -/
theorem owns_form {w : World} {base e size : Nat} {v : Value} {n : Nat} {xs : List Value} (h : w.ownsRow base e size v n xs) : ∃ p c, v = .slice p n c := by
  rcases h.2 with ⟨rfl, rfl⟩ | ⟨g, cap, cur, rfl, _⟩
  · exact ⟨_, _, rfl⟩
  · exact ⟨_, _, rfl⟩

/-- One byte more of xs in the place of a nought. -/
theorem fill_step (xs : List Int) (n k : Nat) (u : Int) (hu : u = xs.getD k 0) (hk : k < n) (hx : xs.length = n) :
    ((xs.take k ++ List.replicate (n - k) 0).map (Value.int .u8)).set k (.int .u8 u) = (xs.take (k + 1) ++ List.replicate (n - (k + 1)) 0).map (Value.int .u8) := by
  subst hu
  simp only [List.getD_eq_getElem?_getD]
  apply List.ext_getElem
  · simp; omega
  · intro i h1 h2
    simp only [List.getElem_set, List.getElem_map]
    simp at h1 h2
    by_cases e : k = i
    · subst e
      simp [List.getElem_append, hx, hk]
      intro h; omega
    · simp only [e, if_false]
      by_cases hi : i < k
      · simp [List.getElem_append, hx]
        rw [dif_pos (by omega), dif_pos (by omega)]
      · simp [List.getElem_append, hx]
        rw [dif_neg (by omega), dif_neg (by omega)]

theorem fill_old (xs : List Int) (n k : Nat) (hk : k < n) (hx : xs.length = n) : ((xs.take k ++ List.replicate (n - k) 0).map (Value.int .u8))[k]? = some (.int .u8 0) := by
  rw [List.getElem?_eq_getElem (by simp; omega)]
  simp [List.getElem_append, hx]
  intro h; omega

theorem fill_start (xs : List Int) (n : Nat) : (madeCells #[Value.int .u8 0] n).toList = (xs.take 0 ++ List.replicate (n - 0) 0).map (Value.int .u8) := by
  rw [toList_madeCells_one]
  simp

theorem fill_end (xs : List Int) (n : Nat) (hx : xs.length = n) : (xs.take n ++ List.replicate (n - n) 0) = xs := by
  subst hx; simp

/-- Two lists that are one up to k are one up to k + 1 just where they have one element there. -/
theorem take_more {xs ys : List Int} {n k : Nat} (hx : xs.length = n) (hy : ys.length = n) (hk : k < n) (h : xs.take k = ys.take k) (e : xs.getD k 0 = ys.getD k 0) : xs.take (k + 1) = ys.take (k + 1) := by
  rw [List.take_succ_eq_append_getElem (by omega), List.take_succ_eq_append_getElem (by omega), h]
  simp [List.getElem?_eq_getElem (show k < xs.length by omega), List.getElem?_eq_getElem (show k < ys.length by omega)] at e
  rw [e]

theorem take_less {xs ys : List Int} {k : Nat} (e : xs.getD k 0 ≠ ys.getD k 0) : xs ≠ ys := fun h => e (by rw [h])

theorem take_all {xs ys : List Int} {n : Nat} (hx : xs.length = n) (hy : ys.length = n) (h : xs.take n = ys.take n) : xs = ys := by
  rwa [List.take_of_length_le (by omega), List.take_of_length_le (by omega)] at h

/-- WHAT THE WALK IS TOLD OF A SLICE OF BYTES THAT CAME IN, in this seat's words: the first len of its numbers lie there, each a byte. -/
theorem row_in {w : World} {a : Option Addr} {len cap : Nat} {zs : List Int}
    (h : (a = none ∧ len = 0 ∧ cap = 0 ∧ zs = []) ∨ ∃ x, a = some x ∧ len ≤ cap ∧ cap ≤ maxLen ∧ zs.length = cap ∧ (∀ i, i < zs.length → w.cell? (x.add i) = some (.int .u8 (zs.getD i 0))) ∧ ∀ n ∈ zs, (Lit.int .u8 n).wf = true) :
    (zs.take len).length = len ∧ BytesIn w a len (zs.take len) ∧ ∀ x ∈ zs.take len, 0 ≤ x ∧ x < 256 := by
  rcases h with ⟨rfl, rfl, rfl, rfl⟩ | ⟨x, rfl, hl, hm, hz, hcell, hwz⟩
  · exact ⟨rfl, fun h => absurd h (Nat.lt_irrefl 0), fun x hx => by simp at hx⟩
  · refine ⟨by simp; omega, fun hn => ?_, fun y hy => ?_⟩
    · obtain ⟨b, off, spot⟩ := x
      have hc := hcell 0 (by omega)
      have hspot : spot = none := by simpa [Addr.add] using World.cell?_spot hc
      subst hspot
      refine ⟨b, off, rfl, fun i hi => ?_⟩
      have := hcell i (by omega)
      rw [Addr.add_lit] at this
      rw [this]
      simp [hi]
    · have := bounds_u8 (hwz y (List.mem_of_mem_take hy))
      omega

/-- What is laid by markByteS from k on. -/
def marks (k : Int) (n : Nat) : List Int := (List.range n).map fun (i : Nat) => (k + (i : Int)) % 256

theorem marks_length (k : Int) (n : Nat) : (marks k n).length = n := by simp [marks]

theorem marks_getD (k : Int) (n i : Nat) (h : i < n) : (marks k n).getD i 0 = (k + (i : Int)) % 256 := by simp [marks, h]

theorem marks_step (k : Int) (xs : List Int) (n j : Nat) (u : Int) (hu : u = (k + (j : Int)) % 256) (hj : j < n) (hx : xs.length = n) :
    ((marks k j ++ xs.drop j).map (Value.int .u8)).set j (.int .u8 u) = (marks k (j + 1) ++ xs.drop (j + 1)).map (Value.int .u8) := by
  subst hu
  have e : xs.drop j = xs[j]'(by omega) :: xs.drop (j + 1) := List.drop_eq_getElem_cons (by omega)
  have m : marks k (j + 1) = marks k j ++ [(k + (j : Int)) % 256] := by simp [marks, List.range_succ]
  rw [e, m, List.map_append, List.map_cons, List.set_append_right _ _ (by simp [marks_length])]
  simp [marks_length]

theorem marks_old (k : Int) (xs : List Int) (n j : Nat) (hj : j < n) (hx : xs.length = n) : ∃ u, ((marks k j ++ xs.drop j).map (Value.int .u8))[j]? = some (.int .u8 u) := by
  refine ⟨(marks k j ++ xs.drop j)[j]'(by simp [marks_length]; omega), ?_⟩
  rw [List.getElem?_eq_getElem (by simp [marks_length]; omega), List.getElem_map]

theorem marks_end (k : Int) (xs : List Int) (n : Nat) (hx : xs.length = n) : marks k n ++ xs.drop n = marks k n := by
  rw [List.drop_of_length_le (by omega), List.append_nil]

theorem grown_trans {a b c : World} {row : Option Nat} (h : a.grownBy b row) (k : b.grownBy c row) : a.grownBy c row :=
  ⟨k.os.trans h.os, k.tape.trans h.tape, k.output.trans h.output, Nat.le_trans h.size k.size, fun i hi hr => (k.block i (Nat.lt_of_lt_of_le hi h.size) hr).trans (h.block i hi hr)⟩

/-- Where a row that is owned has elements it stands at a block's head. -/
theorem owns_at {w : World} {base e : Nat} {p : Option Addr} {n c : Nat} {xs : List Value} (h : w.ownsRow base e 1 (.slice p n c) n xs) (hn : 0 < n) : ∃ g, p = some ⟨g, 0, none⟩ := by
  rcases h.2 with ⟨_, h0⟩ | ⟨g, cap, cur, hv, _⟩
  · omega
  · simp only [Value.slice.injEq] at hv
    exact ⟨g, hv.1⟩

/-- A string's iterator that is moved on turns no row. -/
theorem owns_iter {w : World} {base e size : Nat} {v : Value} {n : Nat} {xs : List Value} (h : w.ownsRow base e size v n xs) {k : Nat} {s : ByteArray} {pos : Nat} (hk : w.heap[k]? = some (.stringIter s pos)) (pos' : Nat) : (w.iterAt k s pos').ownsRow base e size v n xs := by
  refine ⟨h.1, ?_⟩
  rcases h.2 with hn | ⟨g, cap, cur, hv, hbg, hg, rest⟩
  · exact .inl hn
  · refine .inr ⟨g, cap, cur, hv, hbg, ?_, rest⟩
    have hne : g ≠ k := by
      intro e1
      rw [e1, hk] at hg
      cases hg
    rw [Lib.iterAt_other w k g s pos' hne]
    exact hg

/-- The iterator's block is no row's. -/
theorem iter_not_own {w : World} {base e size : Nat} {v : Value} {n : Nat} {xs : List Value} (h : w.ownsRow base e size v n xs) {k : Nat} {s : ByteArray} {pos : Nat} (hk : w.heap[k]? = some (.stringIter s pos)) : some k ≠ v.ownBlock := by
  rcases h.2 with ⟨rfl, _⟩ | ⟨g, cap, cur, rfl, _, hg, _⟩
  · simp [Value.ownBlock]
  · simp only [Value.ownBlock, ne_eq, Option.some.injEq]
    intro e1
    subst e1
    rw [hk] at hg
    cases hg

/-- A row of bytes xs that the call made: v, of n elements; its block lies from lo on and ahead of hi. -/
def Own (e : Nat) (w : World) (lo hi : Nat) (v : Value) (n : Nat) (xs : List Int) : Prop := w.ownsRow lo e 1 v n (xs.map (Value.int .u8)) ∧ ∀ k, v.ownBlock = some k → k < hi

section
variable {e : Nat} {w w' a : World} {lo hi lo' hi' : Nat} {u v : Value} {n m : Nat} {xs ys : List Int}

theorem Own.of (h : w.ownsRow lo e 1 v n (xs.map (Value.int .u8))) : Own e w lo w.heap.size v n xs := ⟨h, fun k hk => (h.lt k hk).2⟩
theorem Own.on (h : Own e w lo hi v n xs) (hb : Below w.heap.size w w') : Own e w' lo hi v n xs := ⟨owns_below h.1 hb, h.2⟩
theorem Own.far (h : Own e w lo hi v n xs) (hg : w.grownBy w' u.ownBlock) (hu : Own e w lo' hi' u m ys) (hd : hi ≤ lo' ∨ hi' ≤ lo) : Own e w' lo hi v n xs := by
  refine ⟨h.1.kept hg ?_, h.2⟩
  rcases hv : v.ownBlock with _ | k
  · exact .inl rfl
  · right
    intro he
    have h1 := h.2 k hv
    have h2 := (h.1.lt k hv).1
    have h3 := hu.2 k he.symm
    have h4 := (hu.1.lt k he.symm).1
    omega
theorem Own.len (h : Own e w lo hi v n xs) : xs.length = n := owns_len h.1
theorem Own.bytes {p : Option Addr} {c : Nat} (h : Own e w lo hi (.slice p n c) n xs) : BytesIn w p n xs := owns_in h.1
theorem below_mark (h : Below a.heap.size a w) (hg : w.grownBy w' u.ownBlock) (hu : Own e w lo' hi' u m ys) (hlo : a.heap.size ≤ lo') : Below a.heap.size a w' :=
  h.grown hg h.size fun k hk => Nat.le_trans hlo (hu.1.lt k hk).1
end

section
variable {P : Program} {e : TypeId} {i : TypeInfo} {base n : Nat} {wr : World} {v : Value} {xs : List Int}

theorem pushs_fit {m : Nat} (hn : n ≤ 1099511627776) (hm : m ≤ 1099511627776) : n + m ≤ maxLen ∧ (n + m) * 1 ≤ 140737488355328 := by unfold maxLen; omega

/-- 'append(out, x, y, ..)' of some bytes, out a row that the call owns, as one step of a region that draws its order. -/
theorem step_pushs {ops : Array Oper} {o : Oper} {a : Act} {K : Act → World → Prop} {Q : Exit → Act → World → Prop} {E : Prop} (hi : P.info? e = some i) (hz : i.zero = some (.int .u8 0)) (hsize : i.size = 1) (hby : i.bytes = 1)
    (s y : Operand) (t : TypeId) (ht : P.underlying t = some (.slice e)) (cs : Array Value) (ys : List Int) (hcs : cs.toList = ys.map (Value.int .u8)) (hm : 0 < ys.length) (hm' : ys.length ≤ 1099511627776)
    (hown : wr.ownsRow base e 1 v n (xs.map (Value.int .u8))) (hn : n ≤ 1099511627776) (hbase : base ≤ wr.heap.size)
    (hgd : o.guard = none) (ho : o.op = .call { callee := .builtin .append, args := #[s, y], argTypes := #[t, t] }) (hs : a.eval s = v) (hy : a.eval y = .slice (some ⟨wr.heap.size, 0, none⟩) ys.length ys.length)
    (h : ∀ g cap w', w'.ownsRow base e 1 (.slice (some ⟨g, 0, none⟩) (n + ys.length) cap) (n + ys.length) ((xs ++ ys).map (Value.int .u8)) → Below base wr w' → K (a.put o.dst (.slice (some ⟨g, 0, none⟩) (n + ys.length) cap)) w') :
    if Region.wanted o (yielded ops a.tmps) = true then Oper.wp P o a (wr.alloc (.cells cs e)).drew K Q else E := by
  refine step_append_lies _ hgd s y t ho base e i (.int .u8 0) 1 1 ht hi hz hsize hby rfl (by decide) v n (xs.map (Value.int .u8)) hs (hown.alloc _).drew ⟨wr.heap.size, 0, none⟩ ys.length ys.length (ys.map (Value.int .u8)) hy (by simp) ?_ (ints_oneCell _ _) hm (pushs_fit hn hm').1 (pushs_fit hn hm').2 (by simp; omega) _ rfl ?_
  · rw [← hcs]
    exact World.news_of_block (cs := cs) (heap_alloc_new wr _)
  · intro g cap w' h1 h2 _ _
    refine h g cap w' (by simpa using h1) (((Below.refl _ _).alloc hbase _).drew.grown h2 (by simp; omega) fun k hk => (hown.lt k hk).1)

/-- The same in a plain region. -/
theorem list_pushs {ops : Array Oper} {rest : List Oper} {o : Oper} {a : Act} {Q : Exit → Act → World → Prop} (hi : P.info? e = some i) (hz : i.zero = some (.int .u8 0)) (hsize : i.size = 1) (hby : i.bytes = 1)
    (s y : Operand) (t : TypeId) (ht : P.underlying t = some (.slice e)) (cs : Array Value) (ys : List Int) (hcs : cs.toList = ys.map (Value.int .u8)) (hm : 0 < ys.length) (hm' : ys.length ≤ 1099511627776)
    (hown : wr.ownsRow base e 1 v n (xs.map (Value.int .u8))) (hn : n ≤ 1099511627776) (hbase : base ≤ wr.heap.size)
    (hgd : o.guard = none) (ho : o.op = .call { callee := .builtin .append, args := #[s, y], argTypes := #[t, t] }) (hs : a.eval s = v) (hy : a.eval y = .slice (some ⟨wr.heap.size, 0, none⟩) ys.length ys.length)
    (h : ∀ g cap w', w'.ownsRow base e 1 (.slice (some ⟨g, 0, none⟩) (n + ys.length) cap) (n + ys.length) ((xs ++ ys).map (Value.int .u8)) → Below base wr w' → wpList P ops Q rest (a.put o.dst (.slice (some ⟨g, 0, none⟩) (n + ys.length) cap)) w') :
    wpList P ops Q (o :: rest) a (wr.alloc (.cells cs e)) := by
  refine wpList_append_lies _ hgd s y t ho base e i (.int .u8 0) 1 1 ht hi hz hsize hby rfl (by decide) v n (xs.map (Value.int .u8)) hs (hown.alloc _) ⟨wr.heap.size, 0, none⟩ ys.length ys.length (ys.map (Value.int .u8)) hy (by simp) ?_ (ints_oneCell _ _) hm (pushs_fit hn hm').1 (pushs_fit hn hm').2 (by simp; omega) _ rfl ?_
  · rw [← hcs]
    exact World.news_of_block (cs := cs) (heap_alloc_new wr _)
  · intro g cap w' h1 h2 _ _
    refine h g cap w' (by simpa using h1) (((Below.refl _ _).alloc hbase _).grown h2 (by simp; omega) fun k hk => (hown.lt k hk).1)

/-- One byte in a plain region, and every other block stays as it was. -/
theorem list_pushK {ops : Array Oper} {rest : List Oper} {o : Oper} {a : Act} {Q : Exit → Act → World → Prop} (hi : P.info? e = some i) (hz : i.zero = some (.int .u8 0)) (hsize : i.size = 1) (hby : i.bytes = 1)
    (s y : Operand) (t : TypeId) (ht : P.underlying t = some (.slice e)) (x : Int) (hown : wr.ownsRow base e 1 v n (xs.map (Value.int .u8))) (hn : n ≤ 1099511627776) (hbase : base ≤ wr.heap.size)
    (hgd : o.guard = none) (ho : o.op = .call { callee := .builtin .append, args := #[s, y], argTypes := #[t, t] }) (hs : a.eval s = v) (hy : a.eval y = .slice (some ⟨wr.heap.size, 0, none⟩) 1 1)
    (h : ∀ g cap w', w'.ownsRow base e 1 (.slice (some ⟨g, 0, none⟩) (n + 1) cap) (n + 1) ((xs ++ [x]).map (Value.int .u8)) → Below base wr w' → (∀ k, k < wr.heap.size → some k ≠ v.ownBlock → w'.heap[k]? = wr.heap[k]?) → wpList P ops Q rest (a.put o.dst (.slice (some ⟨g, 0, none⟩) (n + 1) cap)) w') :
    wpList P ops Q (o :: rest) a (wr.alloc (.cells #[.int .u8 x] e)) := by
  refine wpList_append_lies _ hgd s y t ho base e i (.int .u8 0) 1 1 ht hi hz hsize hby rfl (by decide) v n (xs.map (Value.int .u8)) hs (hown.alloc _) ⟨wr.heap.size, 0, none⟩ 1 1 [.int .u8 x] hy rfl ?_ (fun u hu => by simp at hu; subst hu; rfl) (by decide) (pushs_fit hn (by decide)).1 (pushs_fit hn (by decide)).2 (by simp; omega) _ rfl ?_
  · exact World.news_of_block (cs := #[.int .u8 x]) (heap_alloc_new wr _)
  · intro g cap w' h1 h2 _ _
    refine h g cap w' (by simpa using h1) (((Below.refl _ _).alloc hbase _).grown h2 (by simp; omega) fun k hk => (hown.lt k hk).1) fun k hk hne => ?_
    rw [h2.block k (by simp; omega) hne]
    exact Below.heap_alloc _ _ _ hk

/-- One byte. -/
theorem step_push {ops : Array Oper} {o : Oper} {a : Act} {K : Act → World → Prop} {Q : Exit → Act → World → Prop} {E : Prop} (hi : P.info? e = some i) (hz : i.zero = some (.int .u8 0)) (hsize : i.size = 1) (hby : i.bytes = 1)
    (s y : Operand) (t : TypeId) (ht : P.underlying t = some (.slice e)) (x : Int) (hown : wr.ownsRow base e 1 v n (xs.map (Value.int .u8))) (hn : n ≤ 1099511627776) (hbase : base ≤ wr.heap.size)
    (hgd : o.guard = none) (ho : o.op = .call { callee := .builtin .append, args := #[s, y], argTypes := #[t, t] }) (hs : a.eval s = v) (hy : a.eval y = .slice (some ⟨wr.heap.size, 0, none⟩) 1 1)
    (h : ∀ g cap w', w'.ownsRow base e 1 (.slice (some ⟨g, 0, none⟩) (n + 1) cap) (n + 1) ((xs ++ [x]).map (Value.int .u8)) → Below base wr w' → K (a.put o.dst (.slice (some ⟨g, 0, none⟩) (n + 1) cap)) w') :
    if Region.wanted o (yielded ops a.tmps) = true then Oper.wp P o a (wr.alloc (.cells #[.int .u8 x] e)).drew K Q else E :=
  step_pushs hi hz hsize hby s y t ht #[.int .u8 x] [x] rfl (by simp) (by simp) hown hn hbase hgd ho hs hy h

theorem list_push {ops : Array Oper} {rest : List Oper} {o : Oper} {a : Act} {Q : Exit → Act → World → Prop} (hi : P.info? e = some i) (hz : i.zero = some (.int .u8 0)) (hsize : i.size = 1) (hby : i.bytes = 1)
    (s y : Operand) (t : TypeId) (ht : P.underlying t = some (.slice e)) (x : Int) (hown : wr.ownsRow base e 1 v n (xs.map (Value.int .u8))) (hn : n ≤ 1099511627776) (hbase : base ≤ wr.heap.size)
    (hgd : o.guard = none) (ho : o.op = .call { callee := .builtin .append, args := #[s, y], argTypes := #[t, t] }) (hs : a.eval s = v) (hy : a.eval y = .slice (some ⟨wr.heap.size, 0, none⟩) 1 1)
    (h : ∀ g cap w', w'.ownsRow base e 1 (.slice (some ⟨g, 0, none⟩) (n + 1) cap) (n + 1) ((xs ++ [x]).map (Value.int .u8)) → Below base wr w' → wpList P ops Q rest (a.put o.dst (.slice (some ⟨g, 0, none⟩) (n + 1) cap)) w') :
    wpList P ops Q (o :: rest) a (wr.alloc (.cells #[.int .u8 x] e)) :=
  list_pushs hi hz hsize hby s y t ht #[.int .u8 x] [x] rfl (by simp) (by simp) hown hn hbase hgd ho hs hy h
end

end Go.Proofs.YtdjdanpicbaieaaDoor

namespace Go.Proofs.YtdjdanpicbaieaaDoor
open Go.RowKit

theorem infoByte : (Tryd.prog.info? 5).map (fun i => (i.zero, i.size, i.bytes)) = some (some (.int .u8 0), 1, 1) := by kernel_rfl

end Go.Proofs.YtdjdanpicbaieaaDoor

namespace Go.Proofs.YtdjdanpicbaieaaDoor
open Go.RowKit
set_option maxRecDepth 100000

/-- eqByteS: are the two lists one? -/
theorem eq_len (p q : Option Addr) (n m c d : Nat) (w : World) (hne : n ≠ m) :
    Calls Tryd.prog 9 #[.slice p n c, .slice q m d] w fun e w' => e = .returned (.bool false) ∧ Below w.heap.size w w' := by
  have hd : ((n : Int) != (m : Int)) = true := by simp; omega
  go_enter Tryd.func9, Tryd.ntmps9
  go_wp2
  go_ret
  exact ⟨rfl, Below.refl _ _⟩

set_option maxHeartbeats 1000000 in
theorem eq_same (p q : Option Addr) (n c d : Nat) (xs ys : List Int) (w : World) (hn : n ≤ 9223372036854775807) (hx : xs.length = n) (hy : ys.length = n) (h : BytesIn w p n xs) (h' : BytesIn w q n ys) :
    Calls Tryd.prog 9 #[.slice p n c, .slice q n d] w fun e w' => e = .returned (.bool (decide (xs = ys))) ∧ Below w.heap.size w w' := by
  have hd : ((n : Int) != (n : Int)) = false := by simp
  go_enter Tryd.func9, Tryd.ntmps9
  go_wp2
  go_loopw [5] (fun i wr => ∃ k : Nat, k ≤ n ∧ i = .int .i64 k ∧ Hid (xs.take k = ys.take k) ∧ ∃ m, wr = w.drewN m) (fun i _ => n - (intOf i).toNat)
  case atStart => exact ⟨0, Nat.zero_le _, rfl, by simp [Hid], 0, rfl⟩
  case round =>
    obtain ⟨k, hk, rfl, hsame, m, rfl⟩ := hrel
    by_cases hlt : k < n
    · obtain ⟨b, o, rfl, hc⟩ := h (by omega)
      obtain ⟨b', o', rfl, hc'⟩ := h' (by omega)
      have h1 := hc k hlt
      have h2 := hc' k hlt
      obtain ⟨u, hu⟩ : ∃ u, u = xs.getD k 0 := ⟨_, rfl⟩
      obtain ⟨v, hv⟩ : ∃ v, v = ys.getD k 0 := ⟨_, rfl⟩
      rw [← hu] at h1
      rw [← hv] at h2
      clear hc hc' h h'
      by_cases huv : u = v
      · subst huv
        have hd2 : (u != u) = false := by simp
        have hmore : Hid (xs.take (k + 1) = ys.take (k + 1)) := take_more hx hy hlt hsame (by rw [← hu, ← hv])
        clear hu hv hsame
        go_wp2
        go_quiet (fail)
        go_wp2
        go_roundw
        case rel => exact ⟨k + 1, by omega, by go_num, hmore, _, rfl⟩
        case measure => simp [intOf]; omega
      · have hd2 : (u != v) = true := by simpa using huv
        have hne : Hid (decide (xs = ys) = false) := by have := take_less (k := k) (xs := xs) (ys := ys) (by rw [← hu, ← hv]; exact huv); simpa [Hid] using this
        clear hu hv hsame huv
        go_wp2
        go_quiet (fail)
        go_wp2
        go_ret
        rw [hne.out, World.drewN_drewN]
        exact ⟨rfl, below_drewN (Below.refl _ _) _⟩
    · have hkn : k = n := by omega
      subst hkn
      have hall : Hid (decide (xs = ys) = true) := by simpa [Hid] using take_all hx hy hsame
      clear hsame
      go_wp2
      go_ret
      rw [hall.out]
      exact ⟨rfl, below_drewN (Below.refl _ _) _⟩

theorem eqByteS_any (p q : Option Addr) (n m c d : Nat) (xs ys : List Int) (w : World) (hn : n ≤ 9223372036854775807) (hx : xs.length = n) (hy : ys.length = m) (h : BytesIn w p n xs) (h' : BytesIn w q m ys) :
    Calls Tryd.prog 9 #[.slice p n c, .slice q m d] w fun e w' => e = .returned (.bool (decide (xs = ys))) ∧ Below w.heap.size w w' := by
  by_cases hnm : n = m
  · subst hnm
    exact eq_same p q n c d xs ys w hn hx hy h h'
  · have : decide (xs = ys) = false := by
      simp only [decide_eq_false_iff_not]
      intro e
      subst e
      omega
    rw [this]
    exact eq_len p q n m c d w hnm

end Go.Proofs.YtdjdanpicbaieaaDoor

namespace Go.Proofs.YtdjdanpicbaieaaDoor
open Go.RowKit
set_option maxRecDepth 100000

set_option maxHeartbeats 1000000 in
theorem toByteS_any (p : Option Addr) (n c : Nat) (xs : List Int) (w : World) (hn : n ≤ 1048576) (hx : xs.length = n) (h : BytesIn w p n xs) :
    Calls Tryd.prog 7 #[.slice p n c] w fun e w' => e = .returned (.slice (some ⟨w.heap.size, 0, none⟩) n n) ∧
      w'.ownsRow w.heap.size 5 1 (.slice (some ⟨w.heap.size, 0, none⟩) n n) n (xs.map (Value.int .u8)) ∧ Below w.heap.size w w' := by
  obtain ⟨i0, hi, hz0, hz1, hz2⟩ := info_parts infoByte
  go_enter Tryd.func7, Tryd.ntmps7
  go_wp2_with (at_make; refine wpList_make_full _ rfl _ _ 22 rfl w.heap.size 5 i0 (.int .u8 0) 1 Tryd.underlying22 hi hz0 hz1 _ _ _ _ n rfl rfl rfl rfl ?b2 ?b3 ?b4 ?_)
  case b2 => rw [hz2]; omega
  case b3 => unfold maxLen; omega
  case b4 => exact Nat.le_refl _
  intro w1 hown hgrow
  rw [fill_start xs n] at hown
  have hbel : Below w.heap.size w w1 := (Below.refl _ _).grown hgrow (Nat.le_refl _) (fun _ h => by cases h)
  clear hgrow
  go_wp2
  go_loopw [4] (fun i wr => ∃ k : Nat, k ≤ n ∧ i = .int .i64 k ∧ wr.ownsRow w.heap.size 5 1 (.slice (some ⟨w.heap.size, 0, none⟩) n n) n ((xs.take k ++ List.replicate (n - k) 0).map (Value.int .u8)) ∧ Below w.heap.size w wr)
    (fun i _ => n - (intOf i).toNat)
  case atStart => exact ⟨0, Nat.zero_le _, rfl, hown, hbel⟩
  case round =>
    clear hown hbel
    obtain ⟨k, hk, rfl, hown, hbel⟩ := hrel
    by_cases hlt : k < n
    · obtain ⟨b, o, rfl, hc⟩ := h (by omega)
      obtain ⟨u, hu⟩ : ∃ u, u = xs.getD k 0 := ⟨_, rfl⟩
      have hcx : wr.cell? ⟨b, o + k, none⟩ = some (.int .u8 u) := by
        rw [hbel.cell (p := ⟨b, o + k, none⟩) (World.block_lt_of_cell? w ⟨b, o + k, none⟩ (hc k hlt)), hu]
        exact hc k hlt
      have hold : wr.cell? ⟨w.heap.size, k, none⟩ = some (.int .u8 0) := by
        rw [hown.cellAt k (by omega)]; exact fill_old xs n k hlt hx
      have hfz := hown.frozenAt k
      have hst := hown.stored k (.int .u8 u)
      rw [fill_step xs n k u hu hlt hx] at hst
      have hbel' := hbel.setCell (p := ⟨w.heap.size, k, none⟩) (Nat.le_refl _) (.int .u8 u)
      clear hc h hu
      go_wp2
      go_roundw
      case rel => exact ⟨k + 1, by omega, by go_num, hst.1, hbel'⟩
      case measure => simp [intOf]; omega
    · have hkn : k = n := by omega
      subst hkn
      go_wp2
      go_ret
      rw [fill_end xs k hx] at hown
      exact ⟨rfl, hown, hbel⟩

theorem toByteS_own (p : Option Addr) (n c : Nat) (xs : List Int) (w : World) (hn : n ≤ 1048576) (hx : xs.length = n) (h : BytesIn w p n xs) :
    Calls Tryd.prog 7 #[.slice p n c] w fun e w' => ∃ p' c', e = .returned (.slice p' n c') ∧ Own 5 w' w.heap.size w'.heap.size (.slice p' n c') n xs ∧ Below w.heap.size w w' :=
  (toByteS_any p n c xs w hn hx h).mono fun _ _ ⟨h1, h2, h3⟩ => ⟨_, _, h1, .of h2, h3⟩

end Go.Proofs.YtdjdanpicbaieaaDoor

namespace Go.Proofs.YtdjdanpicbaieaaDoor
open Go.RowKit
set_option maxRecDepth 100000

set_option maxHeartbeats 1000000 in
theorem markByteS_any (base : Nat) (p : Option Addr) (n c : Nat) (xs : List Int) (k : Int) (w : World) (hn : n ≤ 1099511627776) (hk : 0 ≤ k) (hk2 : k ≤ 1099511627776)
    (h : w.ownsRow base 5 1 (.slice p n c) n (xs.map (Value.int .u8))) :
    Calls Tryd.prog 10 #[.slice p n c, .int .i64 k] w fun e w' => e = .returned (.int .i64 (k + n)) ∧
      w'.ownsRow base 5 1 (.slice p n c) n ((marks k n).map (Value.int .u8)) ∧ w.grownBy w' (Value.ownBlock (.slice p n c)) := by
  have hx := owns_len h
  go_enter Tryd.func10, Tryd.ntmps10
  go_wp2
  go_loopw [1, 5] (fun q i wr => ∃ j : Nat, j ≤ n ∧ i = .int .i64 j ∧ q = .int .i64 (k + j) ∧ wr.ownsRow base 5 1 (.slice p n c) n ((marks k j ++ xs.drop j).map (Value.int .u8)) ∧ w.grownBy wr (Value.ownBlock (.slice p n c)))
    (fun _ i _ => n - (intOf i).toNat)
  case atStart => exact ⟨0, Nat.zero_le _, rfl, by simp, by simpa [marks] using h, World.grownBy.refl _ _⟩
  case round =>
    clear h
    obtain ⟨j, hj, rfl, rfl, hown, hgr⟩ := hrel
    by_cases hlt : j < n
    · obtain ⟨g, rfl⟩ := owns_at hown (by omega)
      obtain ⟨v, hv⟩ := marks_old k xs n j hlt hx
      have hold : wr.cell? ⟨g, j, none⟩ = some (.int .u8 v) := by
        rw [hown.cellAt j (by omega)]; exact hv
      have hfz := hown.frozenAt j
      clear hv
      have hst := hown.stored j (.int .u8 ((k + (j : Int)) % 256))
      rw [marks_step k xs n j _ rfl hlt hx] at hst
      go_wp2
      go_roundw
      case rel => exact ⟨j + 1, by omega, by go_num, by go_num, hst.1, grown_trans hgr hst.2⟩
      case measure => simp [intOf]; omega
    · have hjn : j = n := by omega
      subst hjn
      rw [marks_end k xs j hx] at hown
      go_wp2
      go_ret
      exact ⟨rfl, hown, hgr⟩

set_option maxHeartbeats 1000000 in
theorem heldByteS_any (p : Option Addr) (n c : Nat) (k : Int) (w : World) (hn : n ≤ 1099511627776) (hk : 0 ≤ k) (hk2 : k ≤ 1099511627776)
    (h : BytesIn w p n (marks k n)) :
    Calls Tryd.prog 11 #[.slice p n c, .int .i64 k] w fun e w' => e = .returned (.int .i64 (k + n)) ∧ Below w.heap.size w w' := by
  go_enter Tryd.func11, Tryd.ntmps11
  go_wp2
  go_loop [1, 5] (fun q i => ∃ j : Nat, j ≤ n ∧ i = .int .i64 j ∧ q = .int .i64 (k + j)) (fun _ i => n - (intOf i).toNat)
  case atStart => exact ⟨0, Nat.zero_le _, rfl, by simp⟩
  case round =>
    obtain ⟨j, hj, rfl, rfl⟩ := hrel
    by_cases hlt : j < n
    · obtain ⟨b, o, rfl, hc⟩ := h (by omega)
      have h1 := hc j hlt
      rw [marks_getD k n j hlt] at h1
      have hd : ((k + (j : Int)) % 256 != (k + (j : Int)) % 256) = false := by simp
      clear hc h
      go_wp2
      go_round
      case rel => exact ⟨j + 1, by omega, by go_num, by go_num⟩
      case measure => simp [intOf]; omega
    · have hjn : j = n := by omega
      subst hjn
      go_wp2
      go_ret
      exact ⟨rfl, Below.refl _ _⟩

theorem markByteS_own (lo hi : Nat) (p : Option Addr) (n c : Nat) (xs : List Int) (k : Int) (w : World) (hn : n ≤ 1099511627776) (hk : 0 ≤ k) (hk2 : k ≤ 1099511627776)
    (h : Own 5 w lo hi (.slice p n c) n xs) :
    Calls Tryd.prog 10 #[.slice p n c, .int .i64 k] w fun e w' => e = .returned (.int .i64 (k + n)) ∧
      Own 5 w' lo hi (.slice p n c) n (marks k n) ∧ w.grownBy w' (Value.ownBlock (.slice p n c)) :=
  (markByteS_any lo p n c xs k w hn hk hk2 h.1).mono fun _ _ ⟨h1, h2, h3⟩ => ⟨h1, ⟨h2, h.2⟩, h3⟩

end Go.Proofs.YtdjdanpicbaieaaDoor

namespace Go.Proofs.YtdjdanpicbaieaaDoor
open Go.RowKit

theorem i64_mask (a : Int) (e : Nat) (m : Int) (hm : m = ((2 ^ e - 1 : Nat) : Int)) (he : e ≤ 62) : bits .and .i64 a m = a % ((2 ^ e : Nat) : Int) := by
  have hp : 2 ^ e ≤ 2 ^ 62 := Nat.pow_le_pow_right (by decide) he
  have h0 : 0 < 2 ^ e := Nat.two_pow_pos e
  have eb : (BitVec.ofInt 64 m).toNat = 2 ^ e - 1 := by
    rw [BitVec.toNat_ofInt, hm]
    omega
  have ea : (BitVec.ofInt 64 a).toNat = (a % 18446744073709551616).toNat := by rw [BitVec.toNat_ofInt]; rfl
  have ed : (18446744073709551616 : Int) = ((2 ^ e : Nat) : Int) * ((2 ^ (64 - e) : Nat) : Int) := by
    rw [← Int.natCast_mul, ← Nat.pow_add, show e + (64 - e) = 64 by omega]
    rfl
  have : (BitVec.ofInt 64 a &&& BitVec.ofInt 64 m).toNat = (a % 18446744073709551616).toNat % 2 ^ e := by
    rw [BitVec.toNat_and, ea, eb, Nat.and_two_pow_sub_one_eq_mod]
  show IntKind.i64.wrap ((BitVec.ofInt 64 a &&& BitVec.ofInt 64 m).toNat : Int) = _
  have hlt : (a % 18446744073709551616).toNat % 2 ^ e < 2 ^ e := Nat.mod_lt _ h0
  have e2 : (((a % 18446744073709551616).toNat % 2 ^ e : Nat) : Int) = a % ((2 ^ e : Nat) : Int) := by
    rw [Int.natCast_emod, Int.toNat_of_nonneg (Int.emod_nonneg _ (by decide)), ed, Int.emod_emod_of_dvd _ (Int.dvd_mul_right _ _)]
  rw [this, IntKind.wrap_i64]
  rw [← e2]
  omega

theorem i64_mask32 (a : Int) : bits .and .i64 a 4294967295 = a % 4294967296 := i64_mask a 32 _ rfl (by decide)
theorem i64_mask31 (a : Int) : bits .and .i64 a 31 = a % 32 := i64_mask a 5 _ rfl (by decide)

theorem u64_mask31 (k : Int) : bits .and .u64 (IntKind.u64.wrap k) 31 = k % 32 := by
  have ew : IntKind.u64.wrap k = k % 18446744073709551616 := by rw [IntKind.wrap_u64]
  have ea : (BitVec.ofInt 64 (k % 18446744073709551616)).toNat = (k % 18446744073709551616).toNat := by rw [BitVec.toNat_ofInt]; omega
  have : (BitVec.ofInt 64 (k % 18446744073709551616) &&& BitVec.ofInt 64 31).toNat = (k % 18446744073709551616).toNat % 32 := by
    rw [BitVec.toNat_and, ea]
    show _ &&& (2 ^ 5 - 1) = _
    rw [Nat.and_two_pow_sub_one_eq_mod]
  rw [ew]
  show IntKind.u64.wrap ((BitVec.ofInt 64 (k % 18446744073709551616) &&& BitVec.ofInt 64 31).toNat : Int) = _
  rw [this, IntKind.wrap_u64]
  omega

/-- x, a word, turned left by m. -/
def turnN (x m : Nat) : Nat := 2 ^ m * (x % 2 ^ (32 - m)) + x / 2 ^ (32 - m)

theorem turn_hi {x m : Nat} (hx : x < 4294967296) (hm : m < 32) : x / 2 ^ (32 - m) < 2 ^ m := by
  rw [Nat.div_lt_iff_lt_mul (Nat.two_pow_pos _), ← Nat.pow_add, show m + (32 - m) = 32 by omega]
  exact hx

theorem turn_lt {x m : Nat} (hx : x < 4294967296) (hm : m < 32) : turnN x m < 4294967296 := by
  have h1 := turn_hi hx hm
  have h2 : x % 2 ^ (32 - m) < 2 ^ (32 - m) := Nat.mod_lt _ (Nat.two_pow_pos _)
  have h3 : 2 ^ m * (x % 2 ^ (32 - m) + 1) ≤ 2 ^ m * 2 ^ (32 - m) := Nat.mul_le_mul_left _ h2
  rw [← Nat.pow_add, show m + (32 - m) = 32 by omega, Nat.mul_add] at h3
  unfold turnN
  omega

theorem turn_or {x m : Nat} (hx : x < 4294967296) (hm : m < 32) : (x * 2 ^ m % 4294967296 ||| x / 2 ^ (32 - m)) = turnN x m := by
  have e : x * 2 ^ m % 4294967296 = 2 ^ m * (x % 2 ^ (32 - m)) := by
    rw [show (4294967296 : Nat) = 2 ^ m * 2 ^ (32 - m) by rw [← Nat.pow_add, show m + (32 - m) = 32 by omega], Nat.mul_comm x, Nat.mul_mod_mul_left]
  rw [e, turnN, Nat.two_pow_add_eq_or_of_lt (turn_hi hx hm)]

theorem turn_or' {x m : Nat} (hx : x < 4294967296) (hm : m < 32) : (x * 2 ^ m ||| x / 2 ^ (32 - m)) % 4294967296 = turnN x m := by
  rw [← turn_or hx hm]
  show (_ ||| _) % 2 ^ 32 = (_ % 2 ^ 32 ||| _)
  rw [Nat.or_mod_two_pow]
  congr 1
  exact Nat.mod_eq_of_lt (Nat.lt_of_le_of_lt (Nat.div_le_self _ _) hx)

theorem bv64_nat {a : Nat} (h : a < 18446744073709551616) : (BitVec.ofInt 64 (a : Int)).toNat = a := by rw [BitVec.toNat_ofInt]; omega
theorem bv32_nat {a : Nat} (h : a < 4294967296) : (BitVec.ofInt 32 (a : Int)).toNat = a := by rw [BitVec.toNat_ofInt]; omega

theorem i64_or (a b : Nat) (h1 : a < 9223372036854775808) (h2 : b < 9223372036854775808) : bits .or .i64 (a : Int) (b : Int) = ((a ||| b : Nat) : Int) := by
  have hlt : (a ||| b) < 2 ^ 63 := Nat.or_lt_two_pow h1 h2
  have : (BitVec.ofInt 64 (a : Int) ||| BitVec.ofInt 64 (b : Int)).toNat = (a ||| b) := by rw [BitVec.toNat_or, bv64_nat (by omega), bv64_nat (by omega)]
  show IntKind.i64.wrap ((BitVec.ofInt 64 (a : Int) ||| BitVec.ofInt 64 (b : Int)).toNat : Int) = _
  rw [this, IntKind.wrap_i64]
  omega

theorem u32_or (a b : Nat) (h1 : a < 4294967296) (h2 : b < 4294967296) : bits .or .u32 (a : Int) (b : Int) = ((a ||| b : Nat) : Int) := by
  have hlt : (a ||| b) < 2 ^ 32 := Nat.or_lt_two_pow h1 h2
  have : (BitVec.ofInt 32 (a : Int) ||| BitVec.ofInt 32 (b : Int)).toNat = (a ||| b) := by rw [BitVec.toNat_or, bv32_nat h1, bv32_nat h2]
  show IntKind.u32.wrap ((BitVec.ofInt 32 (a : Int) ||| BitVec.ofInt 32 (b : Int)).toNat : Int) = _
  rw [this, IntKind.wrap_u32]
  omega

theorem turn_u32 {x m : Nat} (hx : x < 4294967296) (hm : m < 32) : bits .or .u32 ((x : Int) * 2 ^ m % 4294967296) ((x : Int) / 2 ^ (32 - m)) = ((turnN x m : Nat) : Int) := by
  have e1 : (x : Int) * 2 ^ m % 4294967296 = ((x * 2 ^ m % 4294967296 : Nat) : Int) := by simp
  have e2 : (x : Int) / 2 ^ (32 - m) = ((x / 2 ^ (32 - m) : Nat) : Int) := by simp
  rw [e1, e2, u32_or _ _ (Nat.mod_lt _ (by decide)) (Nat.lt_of_le_of_lt (Nat.div_le_self _ _) hx), turn_or hx hm]

theorem turn_i64 {x m : Nat} (hx : x < 4294967296) (hm : m < 32) : bits .or .i64 ((x : Int) * 2 ^ m) ((x : Int) / 2 ^ (32 - m)) % 4294967296 = ((turnN x m : Nat) : Int) := by
  have e1 : (x : Int) * 2 ^ m = ((x * 2 ^ m : Nat) : Int) := by simp
  have e2 : (x : Int) / 2 ^ (32 - m) = ((x / 2 ^ (32 - m) : Nat) : Int) := by simp
  have hb : x * 2 ^ m < 9223372036854775808 := by
    have h1 : 2 ^ m ≤ 2 ^ 31 := Nat.pow_le_pow_right (by decide) (by omega)
    have h2 : x * 2 ^ m ≤ 4294967295 * 2 ^ 31 := Nat.mul_le_mul (by omega) h1
    omega
  have hd : x / 2 ^ (32 - m) ≤ x := Nat.div_le_self _ _
  have e3 := turn_or' hx hm
  rw [e1, e2, i64_or _ _ hb (by omega)]
  generalize (x * 2 ^ m ||| x / 2 ^ (32 - m)) = q at e3 ⊢
  omega

theorem shl_small {x m : Nat} (hx : x < 4294967296) (hm : m < 32) : 0 ≤ (x : Int) * 2 ^ m ∧ (x : Int) * 2 ^ m ≤ 9223372036854775807 := by
  have e1 : (x : Int) * 2 ^ m = ((x * 2 ^ m : Nat) : Int) := by simp
  have h1 : 2 ^ m ≤ 2 ^ 31 := Nat.pow_le_pow_right (by decide) (by omega)
  have h2 : x * 2 ^ m ≤ 4294967295 * 2 ^ 31 := Nat.mul_le_mul (by omega) h1
  omega

/-- Turned by all its bits a word is what it was. -/
theorem turn_turn {x m : Nat} (hx : x < 4294967296) (hm : m < 32) : turnN (turnN x m) ((32 - m) % 32) = x := by
  rcases Nat.eq_zero_or_pos m with rfl | h0
  · have e : ∀ y, y < 4294967296 → turnN y 0 = y := by
      intro y hy
      simp only [turnN]
      omega
    rw [show (32 - 0) % 32 = 0 from rfl, e _ (turn_lt hx hm), e x hx]
  · rw [Nat.mod_eq_of_lt (show 32 - m < 32 by omega)]
    have hh := turn_hi hx hm
    have e1 : turnN x m % 2 ^ m = x / 2 ^ (32 - m) := by
      rw [turnN, Nat.mul_add_mod, Nat.mod_eq_of_lt hh]
    have e2 : turnN x m / 2 ^ m = x % 2 ^ (32 - m) := by
      rw [turnN, Nat.mul_add_div (Nat.two_pow_pos _), Nat.div_eq_of_lt hh, Nat.add_zero]
    rw [show turnN (turnN x m) (32 - m) = 2 ^ (32 - m) * (turnN x m % 2 ^ (32 - (32 - m))) + turnN x m / 2 ^ (32 - (32 - m)) from rfl, show 32 - (32 - m) = m by omega, e1, e2, Nat.div_add_mod]

def wordN (n : Int) : Nat := (n % 4294967296).toNat
theorem wordN_lt (n : Int) : wordN n < 4294967296 := by unfold wordN; omega
theorem wordN_eq (n : Int) : ((wordN n : Nat) : Int) = n % 4294967296 := by unfold wordN; omega
def countN (k : Int) : Nat := (k % 32).toNat
theorem countN_lt (k : Int) : countN k < 32 := by unfold countN; omega
theorem countN_eq (k : Int) : ((countN k : Nat) : Int) = k % 32 := by unfold countN; omega
/-- What Turn answers. -/
def turnI (n k : Int) : Int := ((turnN (wordN n) (countN k) : Nat) : Int)
theorem turnI_lt (n k : Int) : 0 ≤ turnI n k ∧ turnI n k < 4294967296 := by
  have := turn_lt (wordN_lt n) (countN_lt k)
  unfold turnI
  omega
theorem turnI_back (n k : Int) : turnI (turnI n k) (32 - k % 32) = n % 4294967296 := by
  have h1 := turnI_lt n k
  have e1 : wordN (turnI n k) = turnN (wordN n) (countN k) := by
    unfold wordN
    rw [Int.emod_eq_of_lt h1.1 h1.2]
    simp [turnI, wordN]
  have h2 := countN_lt k
  have e2 : countN (32 - k % 32) = (32 - countN k) % 32 := by
    rw [← countN_eq]
    unfold countN at *
    omega
  rw [← wordN_eq]
  show ((turnN (wordN (turnI n k)) (countN (32 - k % 32)) : Nat) : Int) = _
  rw [e1, e2, turn_turn (wordN_lt n) h2]

end Go.Proofs.YtdjdanpicbaieaaDoor

namespace Go.Proofs.YtdjdanpicbaieaaDoor
open Go.RowKit

theorem specWord_same (n : Int) (w : World) :
    Calls Tryd.prog 98 #[.int .i64 n] w fun e w' => e = .returned (.int .i64 (n % 4294967296)) ∧ w' = w := by
  have hm := i64_mask32 n
  go_enter Tryd.func98, Tryd.ntmps98
  go_wp2
  go_ret
  exact ⟨rfl, rfl⟩

theorem implWord_same (n : Int) (w : World) :
    Calls Tryd.prog 127 #[.int .i64 n] w fun e w' => e = .returned (.int .i64 (n % 4294967296)) ∧ w' = w := by
  go_enter Tryd.func127, Tryd.ntmps127
  go_wp2
  go_ret
  exact ⟨rfl, rfl⟩

theorem specWord_any (n : Int) (w : World) :
    Calls Tryd.prog 98 #[.int .i64 n] w fun e w' => e = .returned (.int .i64 (n % 4294967296)) ∧ Below w.heap.size w w' :=
  (specWord_same n w).mono fun _ _ ⟨h1, h2⟩ => ⟨h1, by rw [h2]; exact Below.refl _ _⟩

theorem implWord_any (n : Int) (w : World) :
    Calls Tryd.prog 127 #[.int .i64 n] w fun e w' => e = .returned (.int .i64 (n % 4294967296)) ∧ Below w.heap.size w w' :=
  (implWord_same n w).mono fun _ _ ⟨h1, h2⟩ => ⟨h1, by rw [h2]; exact Below.refl _ _⟩

end Go.Proofs.YtdjdanpicbaieaaDoor

namespace Go.Proofs.YtdjdanpicbaieaaDoor
open Go.RowKit

theorem rotate_same (x : Nat) (k : Int) (w : World) (hx : x < 4294967296) :
    Calls Tryd.prog 132 #[.int .u32 x, .int .i64 k] w fun e w' => e = .returned (.int .u32 ((turnN x (countN k) : Nat) : Int)) ∧ w' = w := by
  have hm := (u64_mask31 k).trans (countN_eq k).symm
  have hlt := countN_lt k
  generalize countN k = m at hm hlt ⊢
  have ho := turn_u32 hx hlt
  go_enter Tryd.func132, Tryd.ntmps132
  go_wp2
  go_ret
  exact ⟨rfl, rfl⟩

theorem turned_same (x : Nat) (k : Int) (w : World) (hx : x < 4294967296) :
    Calls Tryd.prog 129 #[.int .u32 x, .int .i64 k] w fun e w' => e = .returned (.int .u32 ((turnN x (countN k) : Nat) : Int)) ∧ w' = w := by
  have hr := turn_lt hx (countN_lt k)
  have hc := fun w => rotate_same x k w hx
  generalize turnN x (countN k) = r at hr hc ⊢
  go_enter Tryd.func129, Tryd.ntmps129
  go_wp2_with (fail)
  refine (hc _).mono ?_
  rintro e w1 ⟨rfl, rfl⟩
  go_wp2
  go_ret
  exact ⟨rfl, rfl⟩

theorem specTurn_any (n k : Int) (w : World) :
    Calls Tryd.prog 117 #[.int .i64 n, .int .i64 k] w fun e w' => e = .returned (.int .i64 (turnI n k)) ∧ Below w.heap.size w w' := by
  have hx := wordN_lt n
  have he := wordN_eq n
  have hm := (i64_mask31 k).trans (countN_eq k).symm
  have hlt := countN_lt k
  unfold turnI
  generalize wordN n = x at hx he ⊢
  generalize countN k = m at hm hlt ⊢
  have ho := turn_i64 hx hlt
  have hs := shl_small hx hlt
  generalize turnN x m = r at ho ⊢
  go_enter Tryd.func117, Tryd.ntmps117
  go_wp2_with (fail)
  refine (specWord_same n _).mono ?_
  rintro e w1 ⟨rfl, rfl⟩
  rw [← he]
  clear he
  go_wp2_with (fail)
  go_quiet ((go_at_call 98; exact Calls.quiet_of_same (specWord_same _ _)))
  go_wp2
  go_ret
  rw [ho]
  exact ⟨rfl, below_drewN (Below.refl _ _) _⟩

end Go.Proofs.YtdjdanpicbaieaaDoor

namespace Go.Proofs.YtdjdanpicbaieaaDoor
open Go.RowKit

theorem u32_xor (a b : Nat) (h1 : a < 4294967296) (h2 : b < 4294967296) : bits .xor .u32 (a : Int) (b : Int) = ((a ^^^ b : Nat) : Int) := by
  have hlt : (a ^^^ b) < 2 ^ 32 := Nat.xor_lt_two_pow h1 h2
  have : (BitVec.ofInt 32 (a : Int) ^^^ BitVec.ofInt 32 (b : Int)).toNat = (a ^^^ b) := by rw [BitVec.toNat_xor, bv32_nat h1, bv32_nat h2]
  show IntKind.u32.wrap ((BitVec.ofInt 32 (a : Int) ^^^ BitVec.ofInt 32 (b : Int)).toNat : Int) = _
  rw [this, IntKind.wrap_u32]
  omega

theorem u32_and (a b : Nat) (h1 : a < 4294967296) (h2 : b < 4294967296) : bits .and .u32 (a : Int) (b : Int) = ((a &&& b : Nat) : Int) := by
  have hlt : (a &&& b) < 2 ^ 32 := Nat.and_lt_two_pow _ h2
  have : (BitVec.ofInt 32 (a : Int) &&& BitVec.ofInt 32 (b : Int)).toNat = (a &&& b) := by rw [BitVec.toNat_and, bv32_nat h1, bv32_nat h2]
  show IntKind.u32.wrap ((BitVec.ofInt 32 (a : Int) &&& BitVec.ofInt 32 (b : Int)).toNat : Int) = _
  rw [this, IntKind.wrap_u32]
  omega

theorem i64_xor (a b : Nat) (h1 : a < 4294967296) (h2 : b < 4294967296) : bits .xor .i64 (a : Int) (b : Int) = ((a ^^^ b : Nat) : Int) := by
  have hlt : (a ^^^ b) < 2 ^ 32 := Nat.xor_lt_two_pow h1 h2
  have : (BitVec.ofInt 64 (a : Int) ^^^ BitVec.ofInt 64 (b : Int)).toNat = (a ^^^ b) := by rw [BitVec.toNat_xor, bv64_nat (by omega), bv64_nat (by omega)]
  show IntKind.i64.wrap ((BitVec.ofInt 64 (a : Int) ^^^ BitVec.ofInt 64 (b : Int)).toNat : Int) = _
  rw [this, IntKind.wrap_i64]
  omega

theorem i64_and (a b : Nat) (h1 : a < 4294967296) (h2 : b < 4294967296) : bits .and .i64 (a : Int) (b : Int) = ((a &&& b : Nat) : Int) := by
  have hlt : (a &&& b) < 2 ^ 32 := Nat.and_lt_two_pow _ h2
  have : (BitVec.ofInt 64 (a : Int) &&& BitVec.ofInt 64 (b : Int)).toNat = (a &&& b) := by rw [BitVec.toNat_and, bv64_nat (by omega), bv64_nat (by omega)]
  show IntKind.i64.wrap ((BitVec.ofInt 64 (a : Int) &&& BitVec.ofInt 64 (b : Int)).toNat : Int) = _
  rw [this, IntKind.wrap_i64]
  omega

theorem xor_lt {a b : Nat} (h1 : a < 4294967296) (h2 : b < 4294967296) : a ^^^ b < 4294967296 := Nat.xor_lt_two_pow (n := 32) h1 h2
theorem and_lt {a b : Nat} (h2 : b < 4294967296) : a &&& b < 4294967296 := Nat.and_lt_two_pow (n := 32) _ h2
theorem or_lt {a b : Nat} (h1 : a < 4294967296) (h2 : b < 4294967296) : a ||| b < 4294967296 := Nat.or_lt_two_pow (n := 32) h1 h2

/-- The mixes: turned right by a, b and c; by a and b, and shifted by c. -/
def greatN (x a b c : Nat) : Nat := turnN x (32 - a) ^^^ turnN x (32 - b) ^^^ turnN x (32 - c)
def smallN (x a b c : Nat) : Nat := turnN x (32 - a) ^^^ turnN x (32 - b) ^^^ x / 2 ^ c
theorem greatN_lt {x a b c : Nat} (hx : x < 4294967296) (ha : 0 < a) (hb : 0 < b) (hc : 0 < c) : greatN x a b c < 4294967296 :=
  xor_lt (xor_lt (turn_lt hx (by omega)) (turn_lt hx (by omega))) (turn_lt hx (by omega))
theorem smallN_lt {x a b c : Nat} (hx : x < 4294967296) (ha : 0 < a) (hb : 0 < b) : smallN x a b c < 4294967296 :=
  xor_lt (xor_lt (turn_lt hx (by omega)) (turn_lt hx (by omega))) (Nat.lt_of_le_of_lt (Nat.div_le_self _ _) hx)

theorem u32_xor3 (a b c : Nat) (h1 : a < 4294967296) (h2 : b < 4294967296) (h3 : c < 4294967296) : bits .xor .u32 (bits .xor .u32 (a : Int) (b : Int)) (c : Int) = ((a ^^^ b ^^^ c : Nat) : Int) := by
  rw [u32_xor a b h1 h2, u32_xor _ c (xor_lt h1 h2) h3]
theorem i64_xor3 (a b c : Nat) (h1 : a < 4294967296) (h2 : b < 4294967296) (h3 : c < 4294967296) : bits .xor .i64 (bits .xor .i64 (a : Int) (b : Int)) (c : Int) = ((a ^^^ b ^^^ c : Nat) : Int) := by
  rw [i64_xor a b h1 h2, i64_xor _ c (xor_lt h1 h2) h3]

/-- The choice and the majority. -/
def chN (e f g : Nat) : Nat := (e &&& f) ^^^ ((4294967295 ^^^ e) &&& g)
def majN (a b c : Nat) : Nat := (a &&& b) ^^^ (a &&& c) ^^^ (b &&& c)
theorem chN_lt {e f g : Nat} (hf : f < 4294967296) (hg : g < 4294967296) : chN e f g < 4294967296 := xor_lt (and_lt hf) (and_lt hg)
theorem majN_lt {a b c : Nat} (hb : b < 4294967296) (hc : c < 4294967296) : majN a b c < 4294967296 := xor_lt (xor_lt (and_lt hb) (and_lt hc)) (and_lt hc)

theorem ch_or {e f g : Nat} (he : e < 4294967296) : (e &&& f ||| (4294967295 ^^^ e) &&& g) = chN e f g := by
  unfold chN
  apply Nat.eq_of_testBit_eq
  intro i
  have hk : (4294967295 : Nat).testBit i = decide (i < 32) := by
    rw [show (4294967295 : Nat) = 2 ^ 32 - 1 from rfl, Nat.testBit_two_pow_sub_one]
  simp only [Nat.testBit_or, Nat.testBit_xor, Nat.testBit_and, hk]
  by_cases hi : i < 32
  · simp only [hi, decide_true]
    cases e.testBit i <;> cases f.testBit i <;> cases g.testBit i <;> rfl
  · have : e.testBit i = false := Nat.testBit_lt_two_pow (Nat.lt_of_lt_of_le (show e < 2 ^ 32 from he) (Nat.pow_le_pow_right (by decide) (by omega)))
    rw [this]
    simp

theorem maj_or (a b c : Nat) : (a &&& b ||| a &&& c ||| b &&& c) = majN a b c := by
  unfold majN
  apply Nat.eq_of_testBit_eq
  intro i
  simp only [Nat.testBit_or, Nat.testBit_xor, Nat.testBit_and]
  cases a.testBit i <;> cases b.testBit i <;> cases c.testBit i <;> rfl

theorem u32_maj {a b c : Nat} (ha : a < 4294967296) (hb : b < 4294967296) (hc : c < 4294967296) :
    bits .or .u32 (bits .or .u32 (bits .and .u32 (a : Int) (b : Int)) (bits .and .u32 (a : Int) (c : Int))) (bits .and .u32 (b : Int) (c : Int)) = ((majN a b c : Nat) : Int) := by
  rw [u32_and a b ha hb, u32_and a c ha hc, u32_and b c hb hc, u32_or _ _ (and_lt hb) (and_lt hc), u32_or _ _ (or_lt (and_lt hb) (and_lt hc)) (and_lt hc), maj_or]
theorem i64_maj {a b c : Nat} (ha : a < 4294967296) (hb : b < 4294967296) (hc : c < 4294967296) :
    bits .xor .i64 (bits .xor .i64 (bits .and .i64 (a : Int) (b : Int)) (bits .and .i64 (a : Int) (c : Int))) (bits .and .i64 (b : Int) (c : Int)) = ((majN a b c : Nat) : Int) := by
  rw [i64_and a b ha hb, i64_and a c ha hc, i64_and b c hb hc, i64_xor _ _ (and_lt hb) (and_lt hc), i64_xor _ _ (xor_lt (and_lt hb) (and_lt hc)) (and_lt hc), majN]
theorem u32_ch {e f g : Nat} (he : e < 4294967296) (hf : f < 4294967296) (hg : g < 4294967296) :
    bits .or .u32 (bits .and .u32 (e : Int) (f : Int)) (bits .and .u32 (bits .xor .u32 IntKind.u32.max (e : Int)) (g : Int)) = ((chN e f g : Nat) : Int) := by
  have h0 : bits .xor .u32 IntKind.u32.max (e : Int) = ((4294967295 ^^^ e : Nat) : Int) := u32_xor 4294967295 e (by decide) he
  rw [h0, u32_and e f he hf, u32_and _ g (xor_lt (by decide) he) hg, u32_or _ _ (and_lt hf) (and_lt hg), ch_or he]
theorem i64_ch {e f g : Nat} (he : e < 4294967296) (hf : f < 4294967296) (hg : g < 4294967296) :
    bits .xor .i64 (bits .and .i64 (e : Int) (f : Int)) (bits .and .i64 (bits .xor .i64 4294967295 (e : Int)) (g : Int)) = ((chN e f g : Nat) : Int) := by
  have h0 : bits .xor .i64 4294967295 (e : Int) = ((4294967295 ^^^ e : Nat) : Int) := i64_xor 4294967295 e (by decide) he
  rw [h0, i64_and e f he hf, i64_and _ g (xor_lt (by decide) he) hg, i64_xor _ _ (and_lt hf) (and_lt hg), chN]

/-- The eight words. -/
structure St where
  a : Nat
  b : Nat
  c : Nat
  d : Nat
  e : Nat
  f : Nat
  g : Nat
  h : Nat
def St.ok (s : St) : Prop := s.a < 4294967296 ∧ s.b < 4294967296 ∧ s.c < 4294967296 ∧ s.d < 4294967296 ∧ s.e < 4294967296 ∧ s.f < 4294967296 ∧ s.g < 4294967296 ∧ s.h < 4294967296
def St.list (s : St) : List Nat := [s.a, s.b, s.c, s.d, s.e, s.f, s.g, s.h]
def t1N (s : St) (k w : Nat) : Nat := s.h + greatN s.e 6 11 25 + chN s.e s.f s.g + k + w
def t2N (s : St) : Nat := greatN s.a 2 13 22 + majN s.a s.b s.c
def stepN (s : St) (k w : Nat) : St := ⟨(t1N s k w + t2N s) % 4294967296, s.a, s.b, s.c, (s.d + t1N s k w) % 4294967296, s.e, s.f, s.g⟩
theorem stepN_ok {s : St} (h : s.ok) (k w : Nat) : (stepN s k w).ok := by
  obtain ⟨h1, h2, h3, h4, h5, h6, h7, h8⟩ := h
  exact ⟨Nat.mod_lt _ (by decide), h1, h2, h3, Nat.mod_lt _ (by decide), h5, h6, h7⟩

/-- The numbers of the rounds. -/
def keysL : List Nat := [0x428a2f98, 0x71374491, 0xb5c0fbcf, 0xe9b5dba5, 0x3956c25b, 0x59f111f1, 0x923f82a4, 0xab1c5ed5,
  0xd807aa98, 0x12835b01, 0x243185be, 0x550c7dc3, 0x72be5d74, 0x80deb1fe, 0x9bdc06a7, 0xc19bf174,
  0xe49b69c1, 0xefbe4786, 0x0fc19dc6, 0x240ca1cc, 0x2de92c6f, 0x4a7484aa, 0x5cb0a9dc, 0x76f988da,
  0x983e5152, 0xa831c66d, 0xb00327c8, 0xbf597fc7, 0xc6e00bf3, 0xd5a79147, 0x06ca6351, 0x14292967,
  0x27b70a85, 0x2e1b2138, 0x4d2c6dfc, 0x53380d13, 0x650a7354, 0x766a0abb, 0x81c2c92e, 0x92722c85,
  0xa2bfe8a1, 0xa81a664b, 0xc24b8b70, 0xc76c51a3, 0xd192e819, 0xd6990624, 0xf40e3585, 0x106aa070,
  0x19a4c116, 0x1e376c08, 0x2748774c, 0x34b0bcb5, 0x391c0cb3, 0x4ed8aa4a, 0x5b9cca4f, 0x682e6ff3,
  0x748f82ee, 0x78a5636f, 0x84c87814, 0x8cc70208, 0x90befffa, 0xa4506ceb, 0xbef9a3f7, 0xc67178f2]
theorem keysL_length : keysL.length = 64 := rfl
theorem keysL_lt : ∀ k ∈ keysL, k < 4294967296 := by decide
theorem getD_lt {l : List Nat} {B : Nat} (h : ∀ k ∈ l, k < B) (hB : 0 < B) (i : Nat) : l.getD i 0 < B := by
  rw [List.getD_eq_getElem?_getD]
  cases e : l[i]? with
  | none => exact hB
  | some v => exact h v (List.mem_of_getElem? e)

def roundsN (W : List Nat) (s : St) : Nat → St
  | 0 => s
  | t + 1 => stepN (roundsN W s t) (keysL.getD t 0) (W.getD t 0)
theorem roundsN_ok (W : List Nat) {s : St} (h : s.ok) : ∀ t, (roundsN W s t).ok
  | 0 => h
  | t + 1 => stepN_ok (roundsN_ok W h t) _ _

/-- What is told behind the rounds: word by word together. -/
def addL (xs ys : List Nat) : List Nat := (List.range 8).map fun i => (xs.getD i 0 + ys.getD i 0) % 4294967296
theorem addL_length (xs ys : List Nat) : (addL xs ys).length = 8 := by simp [addL]
theorem addL_lt (xs ys : List Nat) : ∀ x ∈ addL xs ys, x < 4294967296 := by
  intro x hx
  simp only [addL, List.mem_map] at hx
  obtain ⟨i, _, rfl⟩ := hx
  exact Nat.mod_lt _ (by decide)
def stOf (l : List Nat) : St := ⟨l.getD 0 0, l.getD 1 0, l.getD 2 0, l.getD 3 0, l.getD 4 0, l.getD 5 0, l.getD 6 0, l.getD 7 0⟩
theorem stOf_list {l : List Nat} (h : l.length = 8) : (stOf l).list = l := by
  match l, h with
  | [a, b, c, d, e, f, g, h], _ => rfl
theorem stOf_ok {l : List Nat} (h : ∀ x ∈ l, x < 4294967296) : (stOf l).ok :=
  ⟨getD_lt h (by decide) _, getD_lt h (by decide) _, getD_lt h (by decide) _, getD_lt h (by decide) _, getD_lt h (by decide) _, getD_lt h (by decide) _, getD_lt h (by decide) _, getD_lt h (by decide) _⟩

/-- The 64 words of a block: n more behind its sixteen. -/
def nextN (l : List Nat) (t : Nat) : Nat := (smallN (l.getD (t - 2) 0) 17 19 10 + l.getD (t - 7) 0 + smallN (l.getD (t - 15) 0) 7 18 3 + l.getD (t - 16) 0) % 4294967296
def moreN (l : List Nat) : Nat → List Nat
  | 0 => l
  | n + 1 => moreN l n ++ [nextN (moreN l n) (16 + n)]
theorem moreN_length (l : List Nat) (n : Nat) : (moreN l n).length = l.length + n := by
  induction n with
  | zero => rfl
  | succ n ih => simp [moreN, ih]; omega
theorem moreN_lt {l : List Nat} (h : ∀ x ∈ l, x < 4294967296) (n : Nat) : ∀ x ∈ moreN l n, x < 4294967296 := by
  induction n with
  | zero => exact h
  | succ n ih =>
    intro x hx
    simp only [moreN, List.mem_append, List.mem_singleton] at hx
    rcases hx with hx | rfl
    · exact ih x hx
    · exact Nat.mod_lt _ (by decide)
theorem moreN_getD (l : List Nat) (n m i : Nat) (hl : l.length = 16) (hi : i < 16 + n) (hn : n ≤ m) : (moreN l m).getD i 0 = (moreN l n).getD i 0 := by
  induction m with
  | zero => rw [show n = 0 by omega]
  | succ m ih =>
    by_cases e : n = m + 1
    · rw [e]
    · rw [← ih (by omega)]
      have := moreN_length l m
      simp only [moreN, List.getD_eq_getElem?_getD]
      rw [List.getElem?_append_left (by omega)]
/-- The whole of them, as each is told by those ahead of it. -/
def spreadN (l : List Nat) : List Nat := moreN l 48
theorem spreadN_length {l : List Nat} (hl : l.length = 16) : (spreadN l).length = 64 := by rw [spreadN, moreN_length, hl]
theorem spreadN_lt {l : List Nat} (h : ∀ x ∈ l, x < 4294967296) : ∀ x ∈ spreadN l, x < 4294967296 := moreN_lt h _
theorem spreadN_first {l : List Nat} (hl : l.length = 16) (t : Nat) (ht : t < 16) : (spreadN l).getD t 0 = l.getD t 0 := moreN_getD l 0 48 t hl (by omega) (by omega)
theorem spreadN_next {l : List Nat} (hl : l.length = 16) (t : Nat) (h1 : 16 ≤ t) (h2 : t < 64) : (spreadN l).getD t 0 = nextN (spreadN l) t := by
  obtain ⟨n, rfl⟩ : ∃ n, t = 16 + n := ⟨t - 16, by omega⟩
  have e : ∀ i, i < 16 + n → (spreadN l).getD i 0 = (moreN l n).getD i 0 := fun i hi => moreN_getD l n 48 i hl hi (by omega)
  have hlen := moreN_length l n
  rw [show (spreadN l).getD (16 + n) 0 = (moreN l (n + 1)).getD (16 + n) 0 from moreN_getD l (n + 1) 48 (16 + n) hl (by omega) (by omega)]
  unfold nextN
  rw [e _ (by omega), e _ (by omega), e _ (by omega), e _ (by omega)]
  simp only [moreN, List.getD_eq_getElem?_getD]
  rw [List.getElem?_append_right (by omega), show 16 + n - (moreN l n).length = 0 by omega]
  simp [nextN, List.getD_eq_getElem?_getD]
theorem spreadN_zero : spreadN (List.replicate 16 0) = List.replicate 64 0 := by decide

/-- What a block makes of eight words. -/
def blockN (ws s : List Nat) : List Nat := addL s (roundsN (spreadN ws) (stOf s) 64).list
theorem blockN_length (ws s : List Nat) : (blockN ws s).length = 8 := addL_length _ _
theorem blockN_lt (ws s : List Nat) : ∀ x ∈ blockN ws s, x < 4294967296 := addL_lt _ _

end Go.Proofs.YtdjdanpicbaieaaDoor
