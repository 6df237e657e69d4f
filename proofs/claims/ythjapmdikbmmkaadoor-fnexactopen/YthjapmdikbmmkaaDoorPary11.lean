/-
  Plain facts on worlds and lists of bytes for the proofs of this seat: what a row of bytes that the call made reads as, that it stays behind calls that make memory of their own, and what is stored into it. Conditions: none beyond each fact's own.
  Beside those that only leave: rules for a goroutine's own steps and for pieces of its code, whatever the others did before (BesB); no program is spoken of.
  The functions that a stream's two goroutines run are of the kinds of operations that are carried over.
  sendBlocks beside the receiver: its own steps, from its birth to the loop's head.
  One's own operations beside others: whatever kind of operation is carried over touches what is one's own alone, also in the true world: what it lists need not be reckoned.
  sendBlocks beside the receiver: from the loop's head to the call of block.
  sendBlocks beside the receiver: the send; from behind it to the loop's head; from the head to the close; the leaving.
  sendBlocks beside the receiver: the world alone in which block is called; bytes carried over.
-/
import Derived.WalkKit
import Derived.ProofKit
import Derived.WalkSpells
import Derived.OpenShut
import Derived.Laws.BytesArg
import Derived.Deep.QuietTactic
import Derived.BigQuiet
import Derived.Deep.AppendLies
import Derived.Lib.OthersKept
import Derived.Laws.RangeAny
import Derived.Deep.RegionLaw
import Derived.Test.YthjapmdikbmmkaaDoorPary10
import Derived.Conc.Own3
import Derived.Conc.Own4
import Derived.Test.YthjapmdikbmmkaaDoorPary07
import Derived.Test.YthjapmdikbmmkaaDoorChecked
import Derived.Conc.DeferLaws
import Derived.Conc.Own5
import Derived.Conc.WalkWords
import Derived.KernelRfl
namespace Go.Proofs.YthjapmdikbmmkaaDoor
open Go.RowKit
set_option maxRecDepth 100000

def BytesIn (w : World) (p : Option Addr) (n : Nat) (xs : List Int) : Prop :=
  0 < n → ∃ b o, p = some ⟨b, o, none⟩ ∧ ∀ i, i < n → w.cell? ⟨b, o + i, none⟩ = some (.int .u8 (xs.getD i 0))

theorem text_of {P : Program} {w : World} {p : Option Addr} {n : Nat} {xs : List Int} (h : BytesIn w p n xs) (hx : xs.length = n) (c : Nat) (src e dst : TypeId)
    (hs : P.underlying src = some (.slice e)) (he : P.underlying e = some (.int .u8)) (hd : P.underlying dst = some .string) :
    (convert src dst (.slice p n c)).run P w = .ok (.string (strOfNums xs)) w := by
  rcases Nat.eq_zero_or_pos n with hn | hn
  · subst hn
    obtain rfl : xs = [] := List.eq_nil_of_length_eq_zero hx
    rw [run_convert_bytes_string w src dst e _ 0 c hs he hd]
    cases p <;> simp [Conv.bytesToString, loadCells]
    all_goals rfl
  · obtain ⟨b, o, rfl, hc⟩ := h hn
    exact run_convert_bytes_arg (P := P) w src e hs he b o n c xs hx hc dst hd

theorem below_drewN {B : Nat} {a w : World} (h : Below B a w) (n : Nat) : Below B a (w.drewN n) := h.trans ⟨rfl, rfl, rfl, Nat.le_refl _, fun _ _ => rfl⟩

theorem below_on {a w w' : World} (h : Below a.heap.size a w) (k : Below w.heap.size w w') : Below a.heap.size a w' := h.trans (k.mono h.size)

theorem text_eq {xs ys : List Int} (hx : ∀ x ∈ xs, 0 ≤ x ∧ x < 256) (hy : ∀ y ∈ ys, 0 ≤ y ∧ y < 256) : (strOfNums xs).data.toList = (strOfNums ys).data.toList ↔ xs = ys := by
  rw [strOfNums_data, strOfNums_data]
  constructor
  · intro h
    induction xs generalizing ys with
    | nil => cases ys with
      | nil => rfl
      | cons y ys => simp at h
    | cons x xs ih => cases ys with
      | nil => simp at h
      | cons y ys =>
        simp only [List.map_cons, List.cons.injEq] at h
        have h1 := hx x (by simp)
        have h2 := hy y (by simp)
        have e : x = y := by
          have := congrArg UInt8.toNat h.1
          simp at this
          omega
        rw [e, ih (fun z hz => hx z (by simp [hz])) (fun z hz => hy z (by simp [hz])) h.2]
  · intro h; rw [h]

theorem owns_below {w w' : World} {base e size : Nat} {v : Value} {n : Nat} {xs : List Value} (h : w.ownsRow base e size v n xs) (hb : Below w.heap.size w w') : w'.ownsRow base e size v n xs :=
  h.kept (row := none) ⟨hb.os, hb.tape, hb.output, hb.size, fun k hk _ => hb.block k hk⟩ (by cases v.ownBlock <;> simp)

theorem owns_mono {w : World} {base base' e size : Nat} {v : Value} {n : Nat} {xs : List Value} (h : w.ownsRow base e size v n xs) (hb : base' ≤ base) : w.ownsRow base' e size v n xs := by
  refine ⟨h.1, ?_⟩
  rcases h.2 with hn | ⟨g, cap, cur, hv, hbg, rest⟩
  · exact .inl hn
  · exact .inr ⟨g, cap, cur, hv, Nat.le_trans hb hbg, rest⟩

theorem owns_in {w : World} {base e : Nat} {p : Option Addr} {n c : Nat} {xs : List Int} (h : w.ownsRow base e 1 (.slice p n c) n (xs.map (Value.int .u8))) : BytesIn w p n xs := by
  intro hn
  rcases h.2 with ⟨_, h0⟩ | ⟨g, cap, cur, hv, _, _⟩
  · omega
  · simp only [Value.slice.injEq] at hv
    obtain ⟨rfl, _, rfl⟩ := hv
    refine ⟨g, 0, rfl, fun i hi => ?_⟩
    have hl := h.1
    simp only [List.length_map, Nat.mul_one] at hl
    have := h.cellAt i (by omega)
    simp only [Nat.zero_add]
    rw [this]
    simp [List.getElem?_eq_getElem (show i < xs.length by omega), List.getD]

theorem in_below {w w' : World} {p : Option Addr} {n : Nat} {xs : List Int} (h : BytesIn w p n xs) (hb : Below w.heap.size w w') : BytesIn w' p n xs := by
  intro hn
  obtain ⟨b, o, rfl, hc⟩ := h hn
  refine ⟨b, o, rfl, fun i hi => ?_⟩
  have hlt : b < w.heap.size := World.block_lt_of_cell? w ⟨b, o + i, none⟩ (hc i hi)
  rw [hb.cell (p := ⟨b, o + i, none⟩) hlt]
  exact hc i hi

theorem owns_len {w : World} {base e : Nat} {v : Value} {n : Nat} {xs : List Int} (h : w.ownsRow base e 1 v n (xs.map (Value.int .u8))) : xs.length = n := by
  have := h.1; simpa using this

theorem owns_form {w : World} {base e size : Nat} {v : Value} {n : Nat} {xs : List Value} (h : w.ownsRow base e size v n xs) : ∃ p c, v = .slice p n c := by
  rcases h.2 with ⟨rfl, rfl⟩ | ⟨g, cap, cur, rfl, _⟩
  · exact ⟨_, _, rfl⟩
  · exact ⟨_, _, rfl⟩

theorem fill_step (xs : List Int) (n k : Nat) (u : Int) (hu : u = xs.getD k 0) (hk : k < n) (hx : xs.length = n) :
    ((xs.take k ++ List.replicate (n - k) 0).map (Value.int .u8)).set k (.int .u8 u) = (xs.take (k + 1) ++ List.replicate (n - (k + 1)) 0).map (Value.int .u8) := by
  subst hu
  simp only [List.getD_eq_getElem?_getD]
  apply List.ext_getElem
  · simp; omega
  · intro i h1 h2
    simp only [List.getElem_set, List.getElem_map]
    simp at h1 h2
    by_cases e : k = i
    · subst e
      simp [List.getElem_append, hx, hk]
      intro h; omega
    · simp only [e, if_false]
      by_cases hi : i < k
      · simp [List.getElem_append, hx]
        rw [dif_pos (by omega), dif_pos (by omega)]
      · simp [List.getElem_append, hx]
        rw [dif_neg (by omega), dif_neg (by omega)]

theorem fill_old (xs : List Int) (n k : Nat) (hk : k < n) (hx : xs.length = n) : ((xs.take k ++ List.replicate (n - k) 0).map (Value.int .u8))[k]? = some (.int .u8 0) := by
  rw [List.getElem?_eq_getElem (by simp; omega)]
  simp [List.getElem_append, hx]
  intro h; omega

theorem fill_start (xs : List Int) (n : Nat) : (madeCells #[Value.int .u8 0] n).toList = (xs.take 0 ++ List.replicate (n - 0) 0).map (Value.int .u8) := by
  rw [toList_madeCells_one]
  simp

theorem fill_end (xs : List Int) (n : Nat) (hx : xs.length = n) : (xs.take n ++ List.replicate (n - n) 0) = xs := by
  subst hx; simp

theorem take_more {xs ys : List Int} {n k : Nat} (hx : xs.length = n) (hy : ys.length = n) (hk : k < n) (h : xs.take k = ys.take k) (e : xs.getD k 0 = ys.getD k 0) : xs.take (k + 1) = ys.take (k + 1) := by
  rw [List.take_succ_eq_append_getElem (by omega), List.take_succ_eq_append_getElem (by omega), h]
  simp [List.getElem?_eq_getElem (show k < xs.length by omega), List.getElem?_eq_getElem (show k < ys.length by omega)] at e
  rw [e]

theorem take_less {xs ys : List Int} {k : Nat} (e : xs.getD k 0 ≠ ys.getD k 0) : xs ≠ ys := fun h => e (by rw [h])

theorem take_all {xs ys : List Int} {n : Nat} (hx : xs.length = n) (hy : ys.length = n) (h : xs.take n = ys.take n) : xs = ys := by
  rwa [List.take_of_length_le (by omega), List.take_of_length_le (by omega)] at h

def marks (k : Int) (n : Nat) : List Int := (List.range n).map fun (i : Nat) => (k + (i : Int)) % 256

theorem marks_length (k : Int) (n : Nat) : (marks k n).length = n := by simp [marks]

theorem marks_getD (k : Int) (n i : Nat) (h : i < n) : (marks k n).getD i 0 = (k + (i : Int)) % 256 := by simp [marks, h]

theorem marks_step (k : Int) (xs : List Int) (n j : Nat) (u : Int) (hu : u = (k + (j : Int)) % 256) (hj : j < n) (hx : xs.length = n) :
    ((marks k j ++ xs.drop j).map (Value.int .u8)).set j (.int .u8 u) = (marks k (j + 1) ++ xs.drop (j + 1)).map (Value.int .u8) := by
  subst hu
  have e : xs.drop j = xs[j]'(by omega) :: xs.drop (j + 1) := List.drop_eq_getElem_cons (by omega)
  have m : marks k (j + 1) = marks k j ++ [(k + (j : Int)) % 256] := by simp [marks, List.range_succ]
  rw [e, m, List.map_append, List.map_cons, List.set_append_right _ _ (by simp [marks_length])]
  simp [marks_length]

theorem marks_old (k : Int) (xs : List Int) (n j : Nat) (hj : j < n) (hx : xs.length = n) : ∃ u, ((marks k j ++ xs.drop j).map (Value.int .u8))[j]? = some (.int .u8 u) := by
  refine ⟨(marks k j ++ xs.drop j)[j]'(by simp [marks_length]; omega), ?_⟩
  rw [List.getElem?_eq_getElem (by simp [marks_length]; omega), List.getElem_map]

theorem marks_end (k : Int) (xs : List Int) (n : Nat) (hx : xs.length = n) : marks k n ++ xs.drop n = marks k n := by
  rw [List.drop_of_length_le (by omega), List.append_nil]

theorem grown_trans {a b c : World} {row : Option Nat} (h : a.grownBy b row) (k : b.grownBy c row) : a.grownBy c row :=
  ⟨k.os.trans h.os, k.tape.trans h.tape, k.output.trans h.output, Nat.le_trans h.size k.size, fun i hi hr => (k.block i (Nat.lt_of_lt_of_le hi h.size) hr).trans (h.block i hi hr)⟩

theorem owns_at {w : World} {base e : Nat} {p : Option Addr} {n c : Nat} {xs : List Value} (h : w.ownsRow base e 1 (.slice p n c) n xs) (hn : 0 < n) : ∃ g, p = some ⟨g, 0, none⟩ := by
  rcases h.2 with ⟨_, h0⟩ | ⟨g, cap, cur, hv, _⟩
  · omega
  · simp only [Value.slice.injEq] at hv
    exact ⟨g, hv.1⟩

def Own (e : Nat) (w : World) (lo hi : Nat) (v : Value) (n : Nat) (xs : List Int) : Prop := w.ownsRow lo e 1 v n (xs.map (Value.int .u8)) ∧ ∀ k, v.ownBlock = some k → k < hi

section
variable {e : Nat} {w w' a : World} {lo hi lo' hi' : Nat} {u v : Value} {n m : Nat} {xs ys : List Int}

theorem Own.of (h : w.ownsRow lo e 1 v n (xs.map (Value.int .u8))) : Own e w lo w.heap.size v n xs := ⟨h, fun k hk => (h.lt k hk).2⟩
theorem Own.on (h : Own e w lo hi v n xs) (hb : Below w.heap.size w w') : Own e w' lo hi v n xs := ⟨owns_below h.1 hb, h.2⟩
theorem Own.far (h : Own e w lo hi v n xs) (hg : w.grownBy w' u.ownBlock) (hu : Own e w lo' hi' u m ys) (hd : hi ≤ lo' ∨ hi' ≤ lo) : Own e w' lo hi v n xs := by
  refine ⟨h.1.kept hg ?_, h.2⟩
  rcases hv : v.ownBlock with _ | k
  · exact .inl rfl
  · right
    intro he
    have h1 := h.2 k hv
    have h2 := (h.1.lt k hv).1
    have h3 := hu.2 k he.symm
    have h4 := (hu.1.lt k he.symm).1
    omega
theorem Own.len (h : Own e w lo hi v n xs) : xs.length = n := owns_len h.1
theorem Own.bytes {p : Option Addr} {c : Nat} (h : Own e w lo hi (.slice p n c) n xs) : BytesIn w p n xs := owns_in h.1
theorem below_mark (h : Below a.heap.size a w) (hg : w.grownBy w' u.ownBlock) (hu : Own e w lo' hi' u m ys) (hlo : a.heap.size ≤ lo') : Below a.heap.size a w' :=
  h.grown hg h.size fun k hk => Nat.le_trans hlo (hu.1.lt k hk).1
end

section
variable {P : Program} {e : TypeId} {i : TypeInfo} {base n : Nat} {wr : World} {v : Value} {xs : List Int}

theorem pushs_fit {m : Nat} (hn : n ≤ 1099511627776) (hm : m ≤ 1099511627776) : n + m ≤ maxLen ∧ (n + m) * 1 ≤ 140737488355328 := by unfold maxLen; omega

theorem step_pushs {ops : Array Oper} {o : Oper} {a : Act} {K : Act → World → Prop} {Q : Exit → Act → World → Prop} {E : Prop} (hi : P.info? e = some i) (hz : i.zero = some (.int .u8 0)) (hsize : i.size = 1) (hby : i.bytes = 1)
    (s y : Operand) (t : TypeId) (ht : P.underlying t = some (.slice e)) (cs : Array Value) (ys : List Int) (hcs : cs.toList = ys.map (Value.int .u8)) (hm : 0 < ys.length) (hm' : ys.length ≤ 1099511627776)
    (hown : wr.ownsRow base e 1 v n (xs.map (Value.int .u8))) (hn : n ≤ 1099511627776) (hbase : base ≤ wr.heap.size)
    (hgd : o.guard = none) (ho : o.op = .call { callee := .builtin .append, args := #[s, y], argTypes := #[t, t] }) (hs : a.eval s = v) (hy : a.eval y = .slice (some ⟨wr.heap.size, 0, none⟩) ys.length ys.length)
    (h : ∀ g cap w', w'.ownsRow base e 1 (.slice (some ⟨g, 0, none⟩) (n + ys.length) cap) (n + ys.length) ((xs ++ ys).map (Value.int .u8)) → Below base wr w' → K (a.put o.dst (.slice (some ⟨g, 0, none⟩) (n + ys.length) cap)) w') :
    if Region.wanted o (yielded ops a.tmps) = true then Oper.wp P o a (wr.alloc (.cells cs e)).drew K Q else E := by
  refine step_append_lies _ hgd s y t ho base e i (.int .u8 0) 1 1 ht hi hz hsize hby rfl (by decide) v n (xs.map (Value.int .u8)) hs (hown.alloc _).drew ⟨wr.heap.size, 0, none⟩ ys.length ys.length (ys.map (Value.int .u8)) hy (by simp) ?_ (ints_oneCell _ _) hm (pushs_fit hn hm').1 (pushs_fit hn hm').2 (by simp; omega) _ rfl ?_
  · rw [← hcs]
    exact World.news_of_block (cs := cs) (heap_alloc_new wr _)
  · intro g cap w' h1 h2 _ _
    refine h g cap w' (by simpa using h1) (((Below.refl _ _).alloc hbase _).drew.grown h2 (by simp; omega) fun k hk => (hown.lt k hk).1)

theorem list_pushs {ops : Array Oper} {rest : List Oper} {o : Oper} {a : Act} {Q : Exit → Act → World → Prop} (hi : P.info? e = some i) (hz : i.zero = some (.int .u8 0)) (hsize : i.size = 1) (hby : i.bytes = 1)
    (s y : Operand) (t : TypeId) (ht : P.underlying t = some (.slice e)) (cs : Array Value) (ys : List Int) (hcs : cs.toList = ys.map (Value.int .u8)) (hm : 0 < ys.length) (hm' : ys.length ≤ 1099511627776)
    (hown : wr.ownsRow base e 1 v n (xs.map (Value.int .u8))) (hn : n ≤ 1099511627776) (hbase : base ≤ wr.heap.size)
    (hgd : o.guard = none) (ho : o.op = .call { callee := .builtin .append, args := #[s, y], argTypes := #[t, t] }) (hs : a.eval s = v) (hy : a.eval y = .slice (some ⟨wr.heap.size, 0, none⟩) ys.length ys.length)
    (h : ∀ g cap w', w'.ownsRow base e 1 (.slice (some ⟨g, 0, none⟩) (n + ys.length) cap) (n + ys.length) ((xs ++ ys).map (Value.int .u8)) → Below base wr w' → wpList P ops Q rest (a.put o.dst (.slice (some ⟨g, 0, none⟩) (n + ys.length) cap)) w') :
    wpList P ops Q (o :: rest) a (wr.alloc (.cells cs e)) := by
  refine wpList_append_lies _ hgd s y t ho base e i (.int .u8 0) 1 1 ht hi hz hsize hby rfl (by decide) v n (xs.map (Value.int .u8)) hs (hown.alloc _) ⟨wr.heap.size, 0, none⟩ ys.length ys.length (ys.map (Value.int .u8)) hy (by simp) ?_ (ints_oneCell _ _) hm (pushs_fit hn hm').1 (pushs_fit hn hm').2 (by simp; omega) _ rfl ?_
  · rw [← hcs]
    exact World.news_of_block (cs := cs) (heap_alloc_new wr _)
  · intro g cap w' h1 h2 _ _
    refine h g cap w' (by simpa using h1) (((Below.refl _ _).alloc hbase _).grown h2 (by simp; omega) fun k hk => (hown.lt k hk).1)

theorem step_push {ops : Array Oper} {o : Oper} {a : Act} {K : Act → World → Prop} {Q : Exit → Act → World → Prop} {E : Prop} (hi : P.info? e = some i) (hz : i.zero = some (.int .u8 0)) (hsize : i.size = 1) (hby : i.bytes = 1)
    (s y : Operand) (t : TypeId) (ht : P.underlying t = some (.slice e)) (x : Int) (hown : wr.ownsRow base e 1 v n (xs.map (Value.int .u8))) (hn : n ≤ 1099511627776) (hbase : base ≤ wr.heap.size)
    (hgd : o.guard = none) (ho : o.op = .call { callee := .builtin .append, args := #[s, y], argTypes := #[t, t] }) (hs : a.eval s = v) (hy : a.eval y = .slice (some ⟨wr.heap.size, 0, none⟩) 1 1)
    (h : ∀ g cap w', w'.ownsRow base e 1 (.slice (some ⟨g, 0, none⟩) (n + 1) cap) (n + 1) ((xs ++ [x]).map (Value.int .u8)) → Below base wr w' → K (a.put o.dst (.slice (some ⟨g, 0, none⟩) (n + 1) cap)) w') :
    if Region.wanted o (yielded ops a.tmps) = true then Oper.wp P o a (wr.alloc (.cells #[.int .u8 x] e)).drew K Q else E :=
  step_pushs hi hz hsize hby s y t ht #[.int .u8 x] [x] rfl (by simp) (by simp) hown hn hbase hgd ho hs hy h

theorem list_push {ops : Array Oper} {rest : List Oper} {o : Oper} {a : Act} {Q : Exit → Act → World → Prop} (hi : P.info? e = some i) (hz : i.zero = some (.int .u8 0)) (hsize : i.size = 1) (hby : i.bytes = 1)
    (s y : Operand) (t : TypeId) (ht : P.underlying t = some (.slice e)) (x : Int) (hown : wr.ownsRow base e 1 v n (xs.map (Value.int .u8))) (hn : n ≤ 1099511627776) (hbase : base ≤ wr.heap.size)
    (hgd : o.guard = none) (ho : o.op = .call { callee := .builtin .append, args := #[s, y], argTypes := #[t, t] }) (hs : a.eval s = v) (hy : a.eval y = .slice (some ⟨wr.heap.size, 0, none⟩) 1 1)
    (h : ∀ g cap w', w'.ownsRow base e 1 (.slice (some ⟨g, 0, none⟩) (n + 1) cap) (n + 1) ((xs ++ [x]).map (Value.int .u8)) → Below base wr w' → wpList P ops Q rest (a.put o.dst (.slice (some ⟨g, 0, none⟩) (n + 1) cap)) w') :
    wpList P ops Q (o :: rest) a (wr.alloc (.cells #[.int .u8 x] e)) :=
  list_pushs hi hz hsize hby s y t ht #[.int .u8 x] [x] rfl (by simp) (by simp) hown hn hbase hgd ho hs hy h
end

end Go.Proofs.YthjapmdikbmmkaaDoor

namespace Go.Proofs.YthjapmdikbmmkaaDoor
open Go Go.Conc Go.RowKit
set_option maxRecDepth 100000

theorem cells_keeps {n : Nat} {w w1 : World} (h : CellsTo n w) (hl : ∀ b, b < w.heap.size → w1.heap[b]? = w.heap[b]?) : CellsTo n w1 := fun b hb => by
  obtain ⟨o, h1, h2⟩ := h b hb
  exact ⟨o, (hl b (Array.getElem?_eq_some_iff.1 h1).1).trans h1, h2⟩
abbrev Lay (w w1 : World) : Prop := Keeps (fun b => b < w.heap.size) w w1
theorem Lay.on {a b c : World} (h : Lay a b) (k : Lay b c) : Lay a c := ⟨fun i hi => (k.heap i (Nat.lt_of_lt_of_le hi h.size)).trans (h.heap i hi), Nat.le_trans h.size k.size, k.os.trans h.os, k.output.trans h.output, k.tape.trans h.tape⟩
def BesB (P : Program) (Q : Goroutine → World → Prop) (g : Goroutine) (w : World) : Prop := ∀ w1, CellsTo P.globals.size w1 → Below w.heap.size w w1 → Bes P Q g w1
theorem Lay.below {w w1 : World} (h : Lay w w1) : Below w.heap.size w w1 := ⟨h.os, h.tape, h.output, h.size, h.heap⟩
theorem below_lay {w w1 : World} (h : Below w.heap.size w w1) : Lay w w1 := ⟨h.block, h.size, h.os, h.output, h.tape⟩
def Like (w w1 : World) : Prop := ∃ τ d, w = atw w1 τ d
theorem Like.below {n : Nat} {w w1 W : World} {θ : Nat → Question → Nat} (e : Like w w1) (t : w1.tape = W.tape) (h : Below n (World.ret W θ) w) : Below n W w1 := by
  obtain ⟨τ, d, rfl⟩ := e
  exact ⟨h.os, t, h.output, h.size, h.block⟩
theorem Like.size {w w1 : World} (e : Like w w1) : w.heap.size ≤ w1.heap.size := by
  obtain ⟨τ, d, rfl⟩ := e
  exact Nat.le_refl _
theorem below_ret {n : Nat} {w w1 : World} (h : Below n w w1) (θ : Nat → Question → Nat) : Below n (World.ret w θ) (World.ret w1 θ) := ⟨h.os, rfl, h.output, h.size, h.block⟩
theorem Own.ret {e : Nat} {w : World} {lo hi : Nat} {v : Value} {n : Nat} {xs : List Int} (h : Own e w lo hi v n xs) (θ : Nat → Question → Nat) : Own e (World.ret w θ) lo hi v n xs := h
theorem Own.like {e : Nat} {w w1 : World} {lo hi : Nat} {v : Value} {n : Nat} {xs : List Int} (h : Own e w lo hi v n xs) (l : Like w w1) : Own e w1 lo hi v n xs := by
  obtain ⟨τ, d, rfl⟩ := l
  exact h
theorem in_ret {w : World} {p : Option Addr} {n : Nat} {xs : List Int} (h : BytesIn w p n xs) (θ : Nat → Question → Nat) : BytesIn (World.ret w θ) p n xs := h
section
variable {P : Program} {Q : Goroutine → World → Prop} {g g' : Goroutine} {fr : Frame} {cs : List Frame} {w : World}
theorem BesB.here (h : BesB P Q g w) (hG : CellsTo P.globals.size w) : Bes P Q g w := h w hG (.refl _ _)
theorem BesB.on {w1 : World} (h : BesB P Q g w) (hl : Below w.heap.size w w1) : BesB P Q g w1 := fun w2 hG h2 => h w2 hG (below_on hl h2)
theorem BesB.ctlG (hs : ∀ w1, stepG P true (G fr cs) w1 = .go g' w1 #[]) (h : BesB P Q g' w) : BesB P Q (G fr cs) w := fun w1 hG hl =>
  (Bes.of_co (Sh := fun _ => False) (M := fun b => b < w1.heap.size) (Stop := fun _ g2 w2 => Lay w1 w2 ∧ g2 = g') (Co.ctl rfl hs (.stop fun w2 hk => ⟨hk, rfl⟩)) (fun b h => h) fun _ _ _ h _ => h).bind fun g w2 ⟨hl2, e⟩ => by
    subst e
    exact h w2 (cells_keeps hG hl2.heap) (below_on hl hl2.below)
theorem BesB.value {b : Frame} {a : Act} {k : List Item} {ops : Array Oper} {i : Nat} {rest : List Nat} {o : Oper} {v : Value} (ho : ops[i]? = some o) (hw : Region.wanted o (yielded ops a.tmps) = true) (hk : b.kind ≠ .early)
    (hr : ∀ w, (execOp a.eval o).run P w = .ok (.value v) w) (he : ∀ w, (execOp a.eval o).events P w #[] = #[]) (h : BesB P Q (G (b.at (a.put o.dst v) (.inRegion ops rest :: k)) cs) w) : BesB P Q (G (b.at a (.inRegion ops (i :: rest) :: k)) cs) w :=
  .ctlG (fun w1 => by rw [stepG_value ho hw hk (hr w1)]; unfold listed; rw [he w1, seen_none]) h
theorem BesB.call {b : Frame} {a : Act} {k : List Item} {ops : Array Oper} {i : Nat} {rest : List Nat} {o : Oper} {f : FuncId} {fn : Func} {args : Array Operand} {ats : Array TypeId} (ho : ops[i]? = some o) (hw : Region.wanted o (yielded ops a.tmps) = true) (hk : b.kind ≠ .early) (hop : o.op = .call { callee := .value (.func f), args, argTypes := ats })
    (hf : P.funcs[f]? = some fn) (hname : (fn.name == "runtime.NumGoroutine") = false) (hb : fn.body.isNone = false) (h : BesB P Q (G (Frame.enter P f (args.map a.eval) .normal) (b.at a (.inRegion ops (i :: rest) :: k) :: cs)) w) : BesB P Q (G (b.at a (.inRegion ops (i :: rest) :: k)) cs) w := by
  refine .ctlG (fun w1 => ?_) h
  rw [stepG_enter ho hw hk (run_call_body hop hf hname hb)]
  have : listed P b.fn a o w1 = #[] := by unfold listed; rw [events_call_body hop hf hname hb]; exact seen_none P _
  rw [this]
theorem BesB.cond {b : Frame} {a : Act} {k : List Item} {c : Operand} {x y : Code} (t : Bool) (h : a.eval c = .bool t) (hn : BesB P Q (G (b.at a (.code (if t then x else y) :: k)) cs) w) : BesB P Q (G (b.at a (.code (.cond c x y) :: k)) cs) w :=
  .ctlG (fun _ => stepG_cond h) hn
theorem BesB.seq {b : Frame} {a : Act} {k : List Item} {x y : Code} (h : ∀ KK : List Item, (∀ a w, BesB P Q (G (b.at a (.code y :: k)) cs) w → BesB P Q (G (b.at a KK) cs) w) → BesB P Q (G (b.at a (.code x :: KK)) cs) w) : BesB P Q (G (b.at a (.code (.seq x y) :: k)) cs) w :=
  .ctlG (fun _ => stepG_seq) (h _ fun _ _ h => h)
theorem BesB.code {Al : Als} (T : TameA P Al) {b : Frame} {a : Act} {c : Code} {k : List Item} (hf : Al b.fn = true) (hk : b.kind = .normal) (hc : okCodeT P Al (Al.f b.fn) c = true) (hx : ∀ t, Al.f b.fn t = true → FnV Al (a.tmps.getD t undef))
    (h : ∀ K : Act → World → Prop, (∀ a' w2, (∀ w3, Like w2 w3 → w3.tape = w.tape → BesB P Q (G (b.at { a' with defers := a.defers } k) cs) w3) → K a' w2) → ∀ θ w1, Below (World.ret w θ).heap.size (World.ret w θ) w1 → c.wp P (Exit.then K fun _ _ _ => False) { a with defers := [] } w1) :
    BesB P Q (G (b.at a (.code c :: k)) cs) w := fun w1 hG hb =>
  (Bes.code (K := fun a' w2 => ∀ w3, Like w2 w3 → w3.tape = w.tape → BesB P Q (G (b.at { a' with defers := a.defers } k) cs) w3) T hf hk hc hx hG fun τ => wp_mono (h _ (fun _ _ h => h) τ (World.ret w1 τ) ⟨hb.os, rfl, hb.output, hb.size, hb.block⟩) fun e a' w2 h2 => by
    cases e with
    | normal => exact ⟨rfl, h2⟩
    | _ => exact h2.elim).bind fun g w3 ⟨a', τ, d, e, hK, hG3, _, ht⟩ => by
    subst e
    exact hK w3 ⟨τ, d, rfl⟩ (ht.trans hb.tape) w3 hG3 (.refl _ _)
def BCalls (P : Program) (f : FuncId) (x : Array Value) (w : World) (R : Value → World → Prop) : Prop :=
  ∀ (Q : Goroutine → World → Prop) (fr : Frame) (cs : List Frame), (∀ v w2, R v w2 → BesB P Q (G (fr.finish v) cs) w2) → BesB P Q (G (Frame.enter P f x .normal) (fr :: cs)) w
theorem BCalls.mono {f : FuncId} {x : Array Value} {R R' : Value → World → Prop} (h : BCalls P f x w R) (hr : ∀ v w', R v w' → R' v w') : BCalls P f x w R' := fun Q fr cs k => h Q fr cs fun v w2 hv => k v w2 (hr v w2 hv)
theorem BCalls.lone {Al : Als} (T : TameA P Al) {f : FuncId} {x : Array Value} {R : Value → World → Prop} (hf : Al f = true) (hb : Al.b f = false) (hx : ∀ t, t < x.size → t < 200 → Al.f f t = false)
    (hC : ∀ θ w1, Below (World.ret w θ).heap.size (World.ret w θ) w1 → Calls P f x w1 fun e w2 => ∃ v, e = .returned v ∧ ∀ w3, Like w2 w3 → w3.tape = w.tape → R v w3) : BCalls P f x w R := fun Q fr cs h w1 hG hl =>
  (Bes.lone (Post := fun v w2 => ∀ w3, Like w2 w3 → w3.tape = w.tape → R v w3) T hf hb hx hG fun τ => hC τ (World.ret w1 τ) ⟨hl.os, rfl, hl.output, hl.size, hl.block⟩).bind fun g w3 ⟨v, τ, d, e, hp, hG3, _, ht⟩ => by
    subst e
    exact h v w3 (hp w3 ⟨τ, d, rfl⟩ (ht.trans hl.tape)) w3 hG3 (.refl _ _)
end
end Go.Proofs.YthjapmdikbmmkaaDoor

namespace Go.Proofs.YthjapmdikbmmkaaDoor
open Go Go.Conc
set_option maxRecDepth 100000

def glS : Globs := ⟨fun g => g == 0, fun _ _ => false⟩
def alS (f : Nat) : Bool := [58, 78, 85, 89, 79, 39, 86, 84, 87, 46].contains f
theorem tame_one {P : Program} {Gl : Globs} {Al : Nat → Bool} {f : Nat} {fn : Func} (h : P.funcs[f]? = some fn) (hc : (match fn.body with | some b => okCode P Gl Al b | none => false) = true) (hn : (fn.name == "runtime.NumGoroutine") = false) : ∃ fn body, P.funcs[f]? = some fn ∧ (fn.name == "runtime.NumGoroutine") = false ∧ fn.body = some body ∧ okCode P Gl Al body = true := by
  cases hb : fn.body with
  | none => rw [hb] at hc; cases hc
  | some b => rw [hb] at hc; exact ⟨fn, b, h, hn, hb, hc⟩
theorem tameS : TameP Tryd.prog glS alS := by
  refine ⟨fun f hf => ?_, fun _ _ => rfl⟩
  simp only [alS, List.contains_cons, List.contains_nil, Bool.or_false, Bool.or_eq_true, beq_iff_eq] at hf
  rcases hf with rfl | rfl | rfl | rfl | rfl | rfl | rfl | rfl | rfl | rfl
  · exact tame_one Tryd.func58 (by kernel_rfl) (by kernel_rfl)
  · exact tame_one Tryd.func78 (by kernel_rfl) (by kernel_rfl)
  · exact tame_one Tryd.func85 (by kernel_rfl) (by kernel_rfl)
  · exact tame_one Tryd.func89 (by kernel_rfl) (by kernel_rfl)
  · exact tame_one Tryd.func79 (by kernel_rfl) (by kernel_rfl)
  · exact tame_one Tryd.func39 (by kernel_rfl) (by kernel_rfl)
  · exact tame_one Tryd.func86 (by kernel_rfl) (by kernel_rfl)
  · exact tame_one Tryd.func84 (by kernel_rfl) (by kernel_rfl)
  · exact tame_one Tryd.func87 (by kernel_rfl) (by kernel_rfl)
  · exact tame_one Tryd.func46 (by kernel_rfl) (by kernel_rfl)

end Go.Proofs.YthjapmdikbmmkaaDoor

namespace Go.Proofs.YthjapmdikbmmkaaDoor
open Go Go.Conc

def bK : Frame := { (default : Frame) with fn := 45, kind := .deferred }
noncomputable def bodyK : Code := Tryd.f45.body.getD .skip
noncomputable def LK : Code := match bodyK with | .seq _ (.seq _ (.seq _ (.block _ (.loop c)))) => c | _ => .skip
noncomputable def botK : Frame := { (default : Frame) with fn := Tryd.prog.funcs.size, defers := [], mode := .panicking [goexitEntry] }
def closeK (ch : Nat) : Deferred := { target := .builtin .close #[67] 0 #[false], args := #[.chan (some ch)] }

def callK (X : Array Value) (ch : Nat) (c m : Int) : Deferred := { target := .fn (.func 45) #[], args := #[.agg X, .chan (some ch), .int .i64 c, .int .i64 m] }
theorem born_K (X : Array Value) (ch : Nat) (c m : Int) (w : World) : stepG Tryd.prog false (born Tryd.prog (callK X ch c m)) w =
    .go (G (bK.at ⟨#[.agg X, .chan (some ch), .int .i64 c, .int .i64 m, undef, undef, undef, undef, undef, undef, undef, undef, undef, undef, undef, undef, undef, undef, undef, undef, undef], []⟩ [.code bodyK]) [botK]) w #[] := by
  simp [born, callK, stepG, unwind, callDeferred, invoke, callFunc, Tryd.func45, Tryd.f45, seen, GStep.after, G, Frame.enter, Frame.at, bK, botK, bodyK]

section
variable {Sh : Nat → Prop} {Stop : (Nat → Prop) → Goroutine → World → Prop} {M : Nat → Prop} {w : World}
theorem Co.ctlG {P : Program} {main : Bool} {fr : Frame} {cs : List Frame} {g' : Goroutine} (hs : ∀ w1, stepG P main (G fr cs) w1 = .go g' w1 #[]) (h : Co P main Sh Stop M g' w) : Co P main Sh Stop M (G fr cs) w := .ctl rfl hs h
theorem Co.value {P : Program} {main : Bool} {b : Frame} {a : Act} {k : List Item} {cs : List Frame} {ops : Array Oper} {i : Nat} {rest : List Nat} {o : Oper} {v : Value} (ho : ops[i]? = some o) (hw : Region.wanted o (yielded ops a.tmps) = true) (hk : b.kind ≠ .early)
    (hr : ∀ w, (execOp a.eval o).run P w = .ok (.value v) w) (he : ∀ w, (execOp a.eval o).events P w #[] = #[]) (h : Co P main Sh Stop M (G (b.at (a.put o.dst v) (.inRegion ops rest :: k)) cs) w) : Co P main Sh Stop M (G (b.at a (.inRegion ops (i :: rest) :: k)) cs) w :=
  .ctl rfl (fun w1 => by rw [stepG_value ho hw hk (hr w1)]; unfold listed; rw [he w1, seen_none]) h
theorem Co.box {P : Program} {main : Bool} {b : Frame} {a : Act} {k : List Item} {cs : List Frame} {ops : Array Oper} {i : Nat} {rest : List Nat} {o : Oper} {e : TypeId} {x : Operand} {X : Array Value} (ho : ops[i]? = some o) (hw : Region.wanted o (yielded ops a.tmps) = true) (hk : b.kind ≠ .early) (hop : o.op = .box e x) (hx : a.eval x = .agg X) (hM : ∀ b, M b → b < w.heap.size)
    (next : ∀ w1, Keeps M w w1 → Co P main Sh Stop (fun b => M b ∨ b = w1.heap.size) (G (b.at (a.put o.dst (.pointer (some ⟨w1.heap.size, 0, none⟩))) (.inRegion ops rest :: k)) cs) { w1 with heap := w1.heap.push (.cells X e) }) : Co P main Sh Stop M (G (b.at a (.inRegion ops (i :: rest) :: k)) cs) w := by
  have hr : ∀ w1, (execOp a.eval o).run P w1 = .ok (.value (.pointer (some ⟨w1.heap.size, 0, none⟩))) { w1 with heap := w1.heap.push (.cells X e) } := fun w1 => by
    unfold execOp
    rw [hop]
    simp [Instr.box, newVar, newRow, hx, Value.cells]
  have he : ∀ w1, (execOp a.eval o).events P w1 #[] = #[] := fun w1 => by
    unfold execOp
    rw [hop]
    simp [Instr.box, newVar, newRow]
  exact Co.alloc (g' := fun n => G (b.at (a.put o.dst (.pointer (some ⟨n, 0, none⟩))) (.inRegion ops rest :: k)) cs) rfl (fun w1 _ => ⟨#[], by rw [stepG_value ho hw hk (hr w1)]; unfold listed; rw [he w1, seen_none], by simp⟩) hM next
theorem Co.defer {P : Program} {main : Bool} {b : Frame} {a : Act} {k : List Item} {cs : List Frame} {ops : Array Oper} {i : Nat} {rest : List Nat} {o : Oper} {d : Deferred} (ho : ops[i]? = some o) (hw : Region.wanted o (yielded ops a.tmps) = true) (hk : b.kind ≠ .early)
    (hr : ∀ w, (execOp a.eval o).run P w = .ok (.defer d) w) (he : ∀ w, (execOp a.eval o).events P w #[] = #[]) (h : Co P main Sh Stop M (G (b.at (Act.put ⟨a.tmps, d :: a.defers⟩ o.dst undef) (.inRegion ops rest :: k)) cs) w) : Co P main Sh Stop M (G (b.at a (.inRegion ops (i :: rest) :: k)) cs) w := by
  refine .ctl rfl (fun w1 => ?_) h
  have hfin : (b.at ⟨a.tmps, d :: a.defers⟩ (.inRegion ops (i :: rest) :: k)).finish undef = b.at (Act.put ⟨a.tmps, d :: a.defers⟩ o.dst undef) (.inRegion ops rest :: k) := by rw [Frame.finish_at, ho]; rfl
  have hk' : (b.kind == CallKind.early) = false := by simpa using hk
  rw [stepG_oper ho hw, ← hfin]
  simp [stepG.apply, hr, he, G, Frame.at, hk', GStep.after, seen_none]
noncomputable def headK (X : Array Value) (ch : Nat) (c m : Int) (β : Nat) (i : Int) (u5 u6 u7 u8 u9 u12 u13 u14 u15 u16 u17 u18 u19 u20 : Value) : Goroutine :=
  G (bK.at ⟨#[.agg X, .chan (some ch), .int .i64 c, .int .i64 m, .pointer (some ⟨β, 0, none⟩), u5, u6, u7, u8, u9, .int .i64 m, .int .i64 i, u12, u13, u14, u15, u16, u17, u18, u19, u20], [closeK ch]⟩ [.code LK, .inLoop LK, .inBlock 0]) [botK]
set_option maxRecDepth 100000 in
theorem entry_K (X : Array Value) (ch : Nat) (c m : Int) (hM : ∀ b, M b → b < w.heap.size)
    (next : ∀ w1, Keeps M w w1 → ∀ u5 u6 u7 u8 u9 u12 u13 u14 u15 u16 u17 u18 u19 u20, Co Tryd.prog false Sh Stop (fun b => M b ∨ b = w1.heap.size) (headK X ch c m w1.heap.size 0 u5 u6 u7 u8 u9 u12 u13 u14 u15 u16 u17 u18 u19 u20) { w1 with heap := w1.heap.push (.cells X 53) }) :
    Co Tryd.prog false Sh Stop M (born Tryd.prog (callK X ch c m)) w := by
  refine Co.ctl rfl (fun w1 => born_K X ch c m w1) ?_
  simp only [headK, LK, bodyK, Tryd.f45, Option.getD_some] at next ⊢
  repeat (first | with_reducible refine Co.ctlG (fun _ => by first | exact stepG_seq | exact stepG_skip | exact stepG_block | exact stepG_loop | exact stepG_inLoop | exact stepG_inBlock | exact stepG_region_end) ?_ | (with_reducible refine Co.ctlG (fun _ => stepG_region) ?_; (try simp only [List.size_toArray]); (try simp only [List.length_cons]); (try simp only [List.length_nil]); (try simp only [Nat.zero_add]); (try simp only [Nat.reduceAdd]); (try simp only [List.range]); (try simp only [List.range.loop])))
  refine Co.box rfl rfl (by decide) rfl rfl hM fun w1 hk => ?_
  walk_nrm
  repeat (first | (first | with_reducible refine Co.ctlG (fun _ => by first | exact stepG_seq | exact stepG_skip | exact stepG_block | exact stepG_loop | exact stepG_inLoop | exact stepG_inBlock | exact stepG_region_end) ?_ | (with_reducible refine Co.ctlG (fun _ => stepG_region) ?_; (try simp only [List.size_toArray]); (try simp only [List.length_cons]); (try simp only [List.length_nil]); (try simp only [Nat.zero_add]); (try simp only [Nat.reduceAdd]); (try simp only [List.range]); (try simp only [List.range.loop]))) | (refine Co.value rfl rfl (by decide) (fun _ => by simp [execOp, Act.eval]; rfl) (fun _ => by simp [execOp, Act.eval]) ?_; walk_nrm))
  refine Co.defer (d := closeK ch) rfl rfl (by decide) (fun _ => by simp [execOp, resolve, Act.eval, closeK]) (fun _ => by simp [execOp, resolve, Act.eval]) ?_
  walk_nrm
  iterate 3 (first | with_reducible refine Co.ctlG (fun _ => by first | exact stepG_seq | exact stepG_skip | exact stepG_block | exact stepG_loop | exact stepG_inLoop | exact stepG_inBlock | exact stepG_region_end) ?_ | (with_reducible refine Co.ctlG (fun _ => stepG_region) ?_; (try simp only [List.size_toArray]); (try simp only [List.length_cons]); (try simp only [List.length_nil]); (try simp only [Nat.zero_add]); (try simp only [Nat.reduceAdd]); (try simp only [List.range]); (try simp only [List.range.loop])))
  iterate 2 (refine Co.value rfl rfl (by decide) (fun _ => by simp [execOp, Act.eval]; rfl) (fun _ => by simp [execOp, Act.eval]) ?_; walk_nrm)
  iterate 3 (first | with_reducible refine Co.ctlG (fun _ => by first | exact stepG_seq | exact stepG_skip | exact stepG_block | exact stepG_loop | exact stepG_inLoop | exact stepG_inBlock | exact stepG_region_end) ?_ | (with_reducible refine Co.ctlG (fun _ => stepG_region) ?_; (try simp only [List.size_toArray]); (try simp only [List.length_cons]); (try simp only [List.length_nil]); (try simp only [Nat.zero_add]); (try simp only [Nat.reduceAdd]); (try simp only [List.range]); (try simp only [List.range.loop])))
  exact next w1 hk ..
end

end Go.Proofs.YthjapmdikbmmkaaDoor

namespace Go.Proofs.YthjapmdikbmmkaaDoor
open Go Go.Conc
set_option maxRecDepth 100000

def idr (M : Nat → Prop) (n : Nat) (A : Nat → Prop) : Ren := ⟨fun b b' => b = b' ∧ M b, n, A, fun _ => 0, fun _ _ => rfl, 0, fun _ _ => False⟩
structure Mine (Sh M : Nat → Prop) (n : Nat) (A : Nat → Prop) (w : World) : Prop where
  obj : ∀ b, M b → ∃ o, w.heap[b]? = some o ∧ RelO (idr M n A) 0 o o
  shared : ∀ b, Sh b → M b → ∃ c e hi, w.heap[b]? = some (.cells c e (0, hi)) ∧ c.size ≤ hi
  sh : ∀ b, Sh b → b < w.heap.size
  big : n ≤ w.heap.size
theorem Mine.rel {Sh M : Nat → Prop} {n : Nat} {A : Nat → Prop} {w : World} (h : Mine Sh M n A w) (L : Nat) : RelW L Sh (idr M n A) w w := by
  refine ⟨fun b b' hb => ?_, fun b b' c' h1 h2 => h1.1.symm.trans h2.1, fun b c b' h1 h2 => .inl (h1.1.trans h2.1.symm), fun _ _ => rfl, fun _ _ _ => rfl, fun b b' hs hb => h.shared b hs hb.2⟩
  obtain ⟨rfl, hm⟩ := hb
  obtain ⟨o, h1, h2⟩ := h.obj b hm
  exact ⟨o, o, h1, h1, h2⟩
section
variable {P : Program} {main : Bool} {Sh : Nat → Prop} {Stop : (Nat → Prop) → Goroutine → World → Prop} {M N : Nat → Prop} {w : World} {n : Nat} {A : Nat → Prop}
theorem Co.looks {b : Frame} {a : Act} {k : List Item} {cs : List Frame} {ops : Array Oper} {i : Nat} {rest : List Nat} {o : Oper} {v : Value} (ho : ops[i]? = some o) (hw : Region.wanted o (yielded ops a.tmps) = true) (hk : b.kind ≠ .early)
    (hN : ∀ b, N b → M b) (sim : SimS P P RelN (idr N n A) (execOp a.eval o) (execOp a.eval o)) (hm : ∀ w1, Keeps M w w1 → Mine Sh N n A w1) (hr : ∀ w1, Keeps M w w1 → (execOp a.eval o).run P w1 = .ok (.value v) w1)
    (h : Co P main Sh Stop M (G (b.at (a.put o.dst v) (.inRegion ops rest :: k)) cs) w) : Co P main Sh Stop M (G (b.at a (.inRegion ops (i :: rest) :: k)) cs) w := by
  refine .quiet rfl (fun w1 hk1 => ⟨_, stepG_value ho hw hk (hr w1 hk1), fun e he => ?_⟩) h
  have M1 := hm w1 hk1
  cases hrt : (execOp a.eval o).runT P w1 #[] with
  | mk r es0 =>
    have hr1 : r = .ok (.value v) w1 := by rw [← hr w1 hk1, ← Sem.runT_fst P _ w1 #[], hrt]
    subst hr1
    obtain ⟨ρ1, v', w1', more, r1, _, r3, r4, r5⟩ := sim.runs #[] (M1.rel w1.drawn) M1.sh M1.big hrt (Nat.le_refl _)
    rw [hrt] at r1
    simp only [Prod.mk.injEq, Result.ok.injEq, Array.empty_append] at r1
    obtain ⟨⟨_, rfl⟩, rfl⟩ := r1
    have he' : e ∈ es0 := by
      have := seen_sub _ _ he
      have hev : (execOp a.eval o).events P w1 #[] = es0 := by
        show ((execOp a.eval o).runT P w1 #[]).2 = es0
        rw [hrt]
      rwa [hev] at this
    have hpair : ∀ b b', ρ1 b b' → b = b' ∧ N b := fun b b' hb => by
      rcases r4.new b b' hb with x | ⟨j, x, _⟩
      · exact x
      · exact absurd (r3.lt hb).1 (by omega)
    rcases r5 e he' with ⟨ad, c, h1, h2, h3, h4⟩ | ⟨r, c, h1, h2, h3, h4⟩ | h1
    · obtain ⟨rfl, hmc⟩ := hpair _ _ h3
      exact .inl ⟨ad, h1, h2, hN _ hmc, h4⟩
    · obtain ⟨rfl, hmc⟩ := hpair _ _ h4
      exact .inr (.inl ⟨_, h1, h2, h3, hN _ hmc⟩)
    · exact .inr (.inr h1)
end

end Go.Proofs.YthjapmdikbmmkaaDoor

namespace Go.Proofs.YthjapmdikbmmkaaDoor
open Go Go.Conc

section
variable {P : Program} {main : Bool} {Sh : Nat → Prop} {Stop : (Nat → Prop) → Goroutine → World → Prop} {M : Nat → Prop} {w : World} {b : Frame} {a : Act} {k : List Item} {cs : List Frame} {ops : Array Oper} {i : Nat} {rest : List Nat} {o : Oper}
theorem Co.call {f : FuncId} {fn : Func} {args : Array Operand} {ats : Array TypeId} (ho : ops[i]? = some o) (hw : Region.wanted o (yielded ops a.tmps) = true) (hk : b.kind ≠ .early) (hop : o.op = .call { callee := .value (.func f), args, argTypes := ats })
    (hf : P.funcs[f]? = some fn) (hname : (fn.name == "runtime.NumGoroutine") = false) (hb : fn.body.isNone = false) (h : Co P main Sh Stop M (G (Frame.enter P f (args.map a.eval) .normal) (b.at a (.inRegion ops (i :: rest) :: k) :: cs)) w) : Co P main Sh Stop M (G (b.at a (.inRegion ops (i :: rest) :: k)) cs) w := by
  refine .ctl rfl (fun w1 => ?_) h
  rw [stepG_enter ho hw hk (run_call_body hop hf hname hb)]
  have : listed P b.fn a o w1 = #[] := by unfold listed; rw [events_call_body hop hf hname hb]; exact seen_none P _
  rw [this]
theorem Co.loadRow {t e : TypeId} {x : Operand} {β : Nat} {X : Array Value} {fr : Nat × Nat} {d : TypeDesc} (ho : ops[i]? = some o) (hw : Region.wanted o (yielded ops a.tmps) = true) (hk : b.kind ≠ .early) (hop : o.op = .load t x) (hx : a.eval x = .pointer (some ⟨β, 0, none⟩))
    (hβ : w.heap[β]? = some (.cells X e fr)) (hM : M β) (hS : ¬ Sh β) (hSw : ∀ b, Sh b → b < w.heap.size) (hX : ∀ v ∈ X, flatC v = true) (hu : P.underlying t = some d) (hd : (match d with | .struct _ | .array _ _ => true | _ => false) = true) (hi : (P.info? t).map (·.size) = some X.size)
    (h : Co P main Sh Stop M (G (b.at (a.put o.dst (.agg X)) (.inRegion ops rest :: k)) cs) w) : Co P main Sh Stop M (G (b.at a (.inRegion ops (i :: rest) :: k)) cs) w := by
  refine Co.looks (N := fun b => b = β) (n := 0) (A := fun _ => False) ho hw hk (fun b hb => hb ▸ hM) ?_ (fun w1 hk1 => ⟨fun b hb => ?_, fun b hs hb => absurd (hb ▸ hs) hS, fun b hb => Nat.lt_of_lt_of_le (hSw b hb) hk1.size, Nat.zero_le _⟩) (fun w1 hk1 => ?_) h
  · unfold execOp
    rw [hop]
    simp only [hx]
    exact sim_value ((sim_sureAddr (.ptr (show RelA (idr (fun b => b = β) 0 fun _ => False) ⟨β, 0, none⟩ ⟨β, 0, none⟩ from ⟨show β = β ∧ β = β from ⟨rfl, rfl⟩, rfl, rfl, fun _ => rfl, Nat.zero_le _⟩))).bd fun ρ1 u u' _ hu => sim_loadVar hu t)
  · subst hb
    refine ⟨_, (hk1.heap _ hM).trans hβ, .cells e rfl ⟨rfl, fun i v v' h1 h2 => ?_⟩ fun i h1 h2 => ⟨h1, h2⟩⟩
    rw [h1] at h2
    cases h2
    exact flatC_rel (hX v (Array.mem_of_getElem? h1))
  · unfold execOp
    rw [hop]
    simp [hx, Instr.loadAt, Instr.sureAddr, run_loadVar_row w1 β e t X fr d ((hk1.heap _ hM).trans hβ) hu hd hi]
end

/-! ### the round -/
section
variable {Sh : Nat → Prop} {Stop : (Nat → Prop) → Goroutine → World → Prop} {M : Nat → Prop} {w : World}
noncomputable def RK : Code := match LK with | .seq _ (.seq _ (.seq _ r)) => r | _ => .skip
noncomputable def opsK : Array Oper := match LK with | .seq _ (.seq _ (.seq (.block _ (.seq _ (.region _ ops _))) _)) => ops | _ => #[]
noncomputable def callerK (X : Array Value) (ch : Nat) (c m : Int) (β : Nat) (i : Int) (u5 u6 u7 u9 v19 u20 : Value) (rest : List Nat) : Frame :=
  bK.at ⟨#[.agg X, .chan (some ch), .int .i64 c, .int .i64 m, .pointer (some ⟨β, 0, none⟩), u5, u6, u7, .int .i64 i, u9, .int .i64 m, .int .i64 i, .bool true, .int .i64 i, .chan (some ch), .agg X, .int .i64 c, .int .i64 i, .int .i64 (c + i), v19, u20], [closeK ch]⟩ [.inRegion opsK rest, .inBlock 1, .code RK, .inLoop LK, .inBlock 0]
set_option maxRecDepth 100000 in
theorem round_K (X : Array Value) (ch : Nat) (c m : Int) (β : Nat) (i : Int) (hi : i < m) (hc : IntKind.i64.wrap (c + i) = c + i) (fr : Nat × Nat) (hβ : w.heap[β]? = some (.cells X 53 fr)) (hM : M β) (hS : ¬ Sh β) (hSw : ∀ b, Sh b → b < w.heap.size) (hX : ∀ v ∈ X, flatC v = true) (hs : X.size = 16)
    (u5 u6 u7 u8 u9 u12 u13 u14 u15 u16 u17 u18 u19 u20 : Value)
    (next : Co Tryd.prog false Sh Stop M (G (Frame.enter Tryd.prog 58 #[.agg X, .int .i64 (c + i)] .normal) [callerK X ch c m β i u5 u6 u7 u9 u19 u20 [5, 6], botK]) w) :
    Co Tryd.prog false Sh Stop M (headK X ch c m β i u5 u6 u7 u8 u9 u12 u13 u14 u15 u16 u17 u18 u19 u20) w := by
  simp only [callerK, headK, RK, opsK, LK, bodyK, Tryd.f45, Option.getD_some] at next ⊢
  iterate 2 (first | with_reducible refine Co.ctlG (fun _ => by first | exact stepG_seq | exact stepG_skip | exact stepG_block | exact stepG_loop | exact stepG_inLoop | exact stepG_inBlock | exact stepG_region_end) ?_ | (with_reducible refine Co.ctlG (fun _ => stepG_region) ?_; (try simp only [List.size_toArray]); (try simp only [List.length_cons]); (try simp only [List.length_nil]); (try simp only [Nat.zero_add]); (try simp only [Nat.reduceAdd]); (try simp only [List.range]); (try simp only [List.range.loop])))
  refine Co.value (v := .bool true) rfl rfl (by decide) (fun _ => by simp [go_sem, execOp, Act.eval, hi]) (fun _ => by simp [go_sem, execOp, Act.eval]) ?_
  walk_nrm
  iterate 2 (first | with_reducible refine Co.ctlG (fun _ => by first | exact stepG_seq | exact stepG_skip | exact stepG_block | exact stepG_loop | exact stepG_inLoop | exact stepG_inBlock | exact stepG_region_end) ?_ | (with_reducible refine Co.ctlG (fun _ => stepG_region) ?_; (try simp only [List.size_toArray]); (try simp only [List.length_cons]); (try simp only [List.length_nil]); (try simp only [Nat.zero_add]); (try simp only [Nat.reduceAdd]); (try simp only [List.range]); (try simp only [List.range.loop])))
  refine Co.ctlG (fun _ => stepG_cond (t := true) rfl) ?_
  simp only [if_true]
  iterate 5 (first | with_reducible refine Co.ctlG (fun _ => by first | exact stepG_seq | exact stepG_skip | exact stepG_block | exact stepG_loop | exact stepG_inLoop | exact stepG_inBlock | exact stepG_region_end) ?_ | (with_reducible refine Co.ctlG (fun _ => stepG_region) ?_; (try simp only [List.size_toArray]); (try simp only [List.length_cons]); (try simp only [List.length_nil]); (try simp only [Nat.zero_add]); (try simp only [Nat.reduceAdd]); (try simp only [List.range]); (try simp only [List.range.loop])))
  iterate 2 (refine Co.value rfl rfl (by decide) (fun _ => by simp [execOp, Act.eval]; rfl) (fun _ => by simp [execOp, Act.eval]) ?_; walk_nrm)
  iterate 2 (first | with_reducible refine Co.ctlG (fun _ => by first | exact stepG_seq | exact stepG_skip | exact stepG_block | exact stepG_loop | exact stepG_inLoop | exact stepG_inBlock | exact stepG_region_end) ?_ | (with_reducible refine Co.ctlG (fun _ => stepG_region) ?_; (try simp only [List.size_toArray]); (try simp only [List.length_cons]); (try simp only [List.length_nil]); (try simp only [Nat.zero_add]); (try simp only [Nat.reduceAdd]); (try simp only [List.range]); (try simp only [List.range.loop])))
  (refine Co.value rfl rfl (by decide) (fun _ => by simp [execOp, Act.eval]; rfl) (fun _ => by simp [execOp, Act.eval]) ?_; walk_nrm)
  refine Co.loadRow (d := .array 16 51) rfl rfl (by decide) rfl rfl hβ hM hS hSw hX rfl rfl (by rw [hs]; rfl) ?_
  walk_nrm
  iterate 2 (refine Co.value rfl rfl (by decide) (fun _ => by simp [execOp, Act.eval]; rfl) (fun _ => by simp [execOp, Act.eval]) ?_; walk_nrm)
  refine Co.value (v := .int .i64 (c + i)) rfl rfl (by decide) (fun _ => by simp [go_sem, execOp, Act.eval, hc]) (fun _ => by simp [go_sem, execOp, Act.eval]) ?_
  walk_nrm
  refine Co.call rfl rfl (by decide) rfl Tryd.func58 (by kernel_rfl) (by kernel_rfl) ?_
  walk_nrm
  exact next
end

end Go.Proofs.YthjapmdikbmmkaaDoor

namespace Go.Proofs.YthjapmdikbmmkaaDoor
open Go Go.Conc

section
variable {Sh : Nat → Prop} {Stop : (Nat → Prop) → Goroutine → World → Prop} {M : Nat → Prop} {w : World}
set_option maxRecDepth 100000 in
theorem send_K (X : Array Value) (ch : Nat) (c m : Int) (β : Nat) (i : Int) (u5 u6 u7 u9 v u20 : Value) (w : World) :
    stepG Tryd.prog false (G (callerK X ch c m β i u5 u6 u7 u9 v u20 [6]) [botK]) w = .comm (G (callerK X ch c m β i u5 u6 u7 u9 v u20 [6]) [botK]) #[scase ch v (.tuple #[])] true .send w #[] := by
  simp only [callerK, opsK, LK, bodyK, Tryd.f45, Option.getD_some]
  rw [stepG_comm (cases := #[scase ch v (.tuple #[])]) (blocking := true) (shape := .send) (w' := w) rfl rfl (by decide) (by simp [execOp, scase, Act.eval])]
  simp [listed, execOp, seen]
set_option maxRecDepth 100000 in
theorem sent_K (X : Array Value) (ch : Nat) (c m : Int) (β : Nat) (i : Int) (u5 u6 u7 u9 v u20 : Value) :
    (G (callerK X ch c m β i u5 u6 u7 u9 v u20 [6]) [botK]).finishComm Tryd.prog #[scase ch v (.tuple #[])] .send 0 undef false = G (callerK X ch c m β i u5 u6 u7 u9 v u20 []) [botK] := by
  simp only [callerK, opsK, RK, LK, bodyK, Tryd.f45, Option.getD_some]
  rfl
set_option maxRecDepth 100000 in
theorem finish_K (X : Array Value) (ch : Nat) (c m : Int) (β : Nat) (i : Int) (u5 u6 u7 u9 u19 v u20 : Value) :
    (callerK X ch c m β i u5 u6 u7 u9 u19 u20 [5, 6]).finish v = callerK X ch c m β i u5 u6 u7 u9 v u20 [6] := by
  simp only [callerK, opsK, RK, LK, bodyK, Tryd.f45, Option.getD_some]
  rfl
set_option maxRecDepth 100000 in
theorem after_K (X : Array Value) (ch : Nat) (c m : Int) (β : Nat) (i : Int) (hw : IntKind.i64.wrap (i + 1) = i + 1) (u5 u6 u7 u9 v u20 : Value)
    (next : ∀ u8 u12 u13 u14 u15 u16 u17 u18 u19 u20, Co Tryd.prog false Sh Stop M (headK X ch c m β (i + 1) u5 u6 u7 u8 u9 u12 u13 u14 u15 u16 u17 u18 u19 u20) w) :
    Co Tryd.prog false Sh Stop M (G (callerK X ch c m β i u5 u6 u7 u9 v u20 []) [botK]) w := by
  simp only [callerK, headK, opsK, RK, LK, bodyK, Tryd.f45, Option.getD_some] at next ⊢
  iterate 3 (first | with_reducible refine Co.ctlG (fun _ => by first | exact stepG_seq | exact stepG_skip | exact stepG_block | exact stepG_loop | exact stepG_inLoop | exact stepG_inBlock | exact stepG_region_end) ?_ | (with_reducible refine Co.ctlG (fun _ => stepG_region) ?_; (try simp only [List.size_toArray]); (try simp only [List.length_cons]); (try simp only [List.length_nil]); (try simp only [Nat.zero_add]); (try simp only [Nat.reduceAdd]); (try simp only [List.range]); (try simp only [List.range.loop])))
  refine Co.value (v := .int .i64 (i + 1)) rfl rfl (by decide) (fun _ => by simp [go_sem, execOp, Act.eval, hw]) (fun _ => by simp [go_sem, execOp, Act.eval]) ?_
  walk_nrm
  (refine Co.value rfl rfl (by decide) (fun _ => by simp [execOp, Act.eval]; rfl) (fun _ => by simp [execOp, Act.eval]) ?_; walk_nrm)
  iterate 2 (first | with_reducible refine Co.ctlG (fun _ => by first | exact stepG_seq | exact stepG_skip | exact stepG_block | exact stepG_loop | exact stepG_inLoop | exact stepG_inBlock | exact stepG_region_end) ?_ | (with_reducible refine Co.ctlG (fun _ => stepG_region) ?_; (try simp only [List.size_toArray]); (try simp only [List.length_cons]); (try simp only [List.length_nil]); (try simp only [Nat.zero_add]); (try simp only [Nat.reduceAdd]); (try simp only [List.range]); (try simp only [List.range.loop])))
  exact next ..
noncomputable def outK (X : Array Value) (ch : Nat) (c m : Int) (β : Nat) (i : Int) (u5 u6 u7 u8 u9 u13 u14 u15 u16 u17 u18 u19 u20 : Value) (ds : List Deferred) : Goroutine :=
  G { bK.at ⟨#[.agg X, .chan (some ch), .int .i64 c, .int .i64 m, .pointer (some ⟨β, 0, none⟩), u5, u6, u7, u8, u9, .int .i64 m, .int .i64 i, .bool false, u13, u14, u15, u16, u17, u18, u19, u20], ds⟩ [] with mode := .returning } [botK]
set_option maxRecDepth 100000 in
theorem done_K (X : Array Value) (ch : Nat) (c m : Int) (β : Nat) (i : Int) (hi : ¬ i < m) (u5 u6 u7 u8 u9 u12 u13 u14 u15 u16 u17 u18 u19 u20 : Value)
    (next : Co Tryd.prog false Sh Stop M (outK X ch c m β i u5 u6 u7 u8 u9 u13 u14 u15 u16 u17 u18 u19 u20 [closeK ch]) w) :
    Co Tryd.prog false Sh Stop M (headK X ch c m β i u5 u6 u7 u8 u9 u12 u13 u14 u15 u16 u17 u18 u19 u20) w := by
  simp only [outK, headK, LK, bodyK, Tryd.f45, Option.getD_some] at next ⊢
  iterate 2 (first | with_reducible refine Co.ctlG (fun _ => by first | exact stepG_seq | exact stepG_skip | exact stepG_block | exact stepG_loop | exact stepG_inLoop | exact stepG_inBlock | exact stepG_region_end) ?_ | (with_reducible refine Co.ctlG (fun _ => stepG_region) ?_; (try simp only [List.size_toArray]); (try simp only [List.length_cons]); (try simp only [List.length_nil]); (try simp only [Nat.zero_add]); (try simp only [Nat.reduceAdd]); (try simp only [List.range]); (try simp only [List.range.loop])))
  refine Co.value (v := .bool false) rfl rfl (by decide) (fun _ => by simp [go_sem, execOp, Act.eval, hi]) (fun _ => by simp [go_sem, execOp, Act.eval]) ?_
  walk_nrm
  iterate 2 (first | with_reducible refine Co.ctlG (fun _ => by first | exact stepG_seq | exact stepG_skip | exact stepG_block | exact stepG_loop | exact stepG_inLoop | exact stepG_inBlock | exact stepG_region_end) ?_ | (with_reducible refine Co.ctlG (fun _ => stepG_region) ?_; (try simp only [List.size_toArray]); (try simp only [List.length_cons]); (try simp only [List.length_nil]); (try simp only [Nat.zero_add]); (try simp only [Nat.reduceAdd]); (try simp only [List.range]); (try simp only [List.range.loop])))
  refine Co.ctlG (fun _ => stepG_cond (t := false) rfl) ?_
  simp only [Bool.false_eq_true, if_false]
  refine Co.ctlG (fun _ => stepG_exit rfl) ?_
  refine Co.ctlG (fun _ => stepG_end) ?_
  exact next
theorem quits_K (X : Array Value) (ch : Nat) (c m : Int) (β : Nat) (i : Int) (u5 u6 u7 u8 u9 u13 u14 u15 u16 u17 u18 u19 u20 : Value) : QuitsD Tryd.prog 2 0 (outK X ch c m β i u5 u6 u7 u8 u9 u13 u14 u15 u16 u17 u18 u19 u20 []) := by
  refine .ctl rfl (g' := G botK []) (fun w => ?_) (.ctl rfl (g' := { G botK [] with status := .finished }) (fun w => ?_) ⟨rfl, rfl⟩)
  · simp [outK, G, stepG, unwind, doReturn, results, Frame.at, bK, botK, Tryd.func45, Tryd.f45, seen, GStep.after, goexitEntry]
  · simp [G, stepG, unwind, botK, goexitEntry, Frame.catches]
    rfl
theorem close_K (X : Array Value) (ch : Nat) (c m : Int) (β : Nat) (i : Int) (u5 u6 u7 u8 u9 u13 u14 u15 u16 u17 u18 u19 u20 : Value) (w : World) : AtClose Tryd.prog ch M (outK X ch c m β i u5 u6 u7 u8 u9 u13 u14 u15 u16 u17 u18 u19 u20 [closeK ch]) w := by
  refine ⟨_, _, rfl, ?_, fun cap buf s r tm hc => ⟨_, 2, ?_, quits_K X ch c m β i u5 u6 u7 u8 u9 u13 u14 u15 u16 u17 u18 u19 u20⟩⟩
  · rfl
  · have hr := run_close_open (P := Tryd.prog) #[67] 0 hc
    have he := events_close_open (P := Tryd.prog) (es := #[]) #[67] 0 hc
    have hi : invoke (.builtin .close #[67] 0 #[false]) #[.chan (some ch)] = (do pure (.value (← Builtin.close_ #[67] 0 #[.chan (some ch)])) : Sem Next) := rfl
    have hr2 : (invoke (.builtin .close #[67] 0 #[false]) #[.chan (some ch)]).run Tryd.prog w = .ok (.value (.tuple #[])) (w.setChan ch cap buf true s r tm) := by rw [hi]; simp [hr, World.setChan]
    have he2 : (invoke (.builtin .close #[67] 0 #[false]) #[.chan (some ch)]).events Tryd.prog w #[] = #[⟨.obj ch, false, true⟩, ⟨.obj ch, true, true⟩] := by rw [hi]; simp [he]
    have hs : seen Tryd.prog bK.fn #[⟨.obj ch, false, true⟩, ⟨.obj ch, true, true⟩] = #[⟨.obj ch, false, true⟩, ⟨.obj ch, true, true⟩] := seen_eq (by simp [bK, Tryd.func45, Tryd.f45]) (by simp)
    simp [outK, G, stepG, unwind, callDeferred, closeK, Frame.at, GStep.after, hr2, he2, hs]
end

end Go.Proofs.YthjapmdikbmmkaaDoor

namespace Go.Proofs.YthjapmdikbmmkaaDoor
open Go Go.Conc
set_option maxRecDepth 100000

def ShS (b : Nat) : Prop := glS b = true
theorem shS_iff (b : Nat) : ShS b ↔ b = 0 := by simp [ShS, glS]
noncomputable def ghostK (w : World) (C : Array Value) (e : TypeId) : World := { w with heap := Array.replicate Tryd.prog.globals.size (.cells C e (0, C.size)) }
noncomputable def renK : Ren := ⟨fun b b' => b = 0 ∧ b' = 0, Tryd.prog.globals.size, fun f => alS f = true, fun _ => 0, fun _ _ => rfl, 115, fun f n => glS.d f n = true⟩
theorem bogS : Tryd.prog.info? 115 = none := by kernel_rfl
theorem tableK : 0 < Tryd.prog.globals.size := by
  have : decide (0 < Tryd.prog.globals.size) = true := by kernel_rfl
  exact of_decide_eq_true this
theorem sit_K {w : World} {C : Array Value} {e : TypeId} {lo hi : Nat} (hT : w.heap[0]? = some (.cells C e (lo, hi))) (hC : ∀ v ∈ C, flatC v = true) (hfr : ∀ i, lo ≤ i → i < hi → i < C.size) : Sit 0 Tryd.prog glS alS ShS renK (ghostK w C e) w := by
  have hgh : (ghostK w C e).heap[0]? = some (.cells C e (0, C.size)) := by
    show (Array.replicate Tryd.prog.globals.size _)[_]? = _
    rw [Array.getElem?_replicate, if_pos tableK]
  refine ⟨⟨fun b b' hb => ?_, fun b b' c' h1 h2 => h1.2.trans h2.2.symm, fun b c b' h1 h2 => .inl (h1.1.trans h2.1.symm), fun _ _ => rfl, fun i q h => absurd h (Nat.not_lt_zero _), fun b b' hs hb => ?_⟩, fun b hb => ?_, ⟨rfl, bogS⟩, rfl, rfl, fun g hg => ?_, ?_⟩
  · obtain ⟨rfl, rfl⟩ := hb
    refine ⟨_, _, hgh, hT, .cells e rfl ⟨rfl, fun i v v' h1 h2 => ?_⟩ fun i h1 h2 => ⟨Nat.zero_le _, hfr i h1 h2⟩⟩
    rw [h1] at h2
    cases h2
    exact flatC_rel (hC v (Array.mem_of_getElem? h1))
  · obtain ⟨rfl, rfl⟩ := hb
    exact ⟨C, e, C.size, hgh, Nat.le_refl _⟩
  · rw [(shS_iff b).1 hb]
    exact Nat.lt_of_lt_of_eq tableK (by simp [ghostK])
  · rw [(shS_iff g).1 hg]
    exact ⟨⟨rfl, rfl⟩, rfl⟩
  · simp [ghostK]
theorem cells_over {L : Nat} {Sh : Nat → Prop} {ρ : Ren} {wg w : World} (h : RelW L Sh ρ wg w) {b o n c : Nat} {v' : Value} (hv : RelV ρ (.slice (some ⟨b, o, none⟩) n c) v') (f : Nat → Int) (k : IntKind) (hc : ∀ i, i < n → wg.cell? ⟨b, o + i, none⟩ = some (.int k (f i))) :
    ∃ b', v' = .slice (some ⟨b', o, none⟩) n c ∧ ρ b b' ∧ ∀ i, i < n → w.cell? ⟨b', o + i, none⟩ = some (.int k (f i)) := by
  cases hv with
  | @slice a a' n c ha =>
    obtain ⟨b', o', s'⟩ := a'
    obtain ⟨hb, e1, e2, hg⟩ := ha
    simp only at hb e1 e2 hg
    subst e1 e2
    refine ⟨b', rfl, hb, fun i hi => ?_⟩
    obtain ⟨v2, h1, h2⟩ := (h.cell (a := ⟨b, o' + i, none⟩) (a' := ⟨b', o' + i, none⟩) ⟨hb, rfl, rfl, hg.1, by have := hg.2; show ρ.lo b ≤ o' + i + 1; omega⟩).1 _ (hc i hi)
    rw [h1]
    cases h2
    rfl

end Go.Proofs.YthjapmdikbmmkaaDoor
