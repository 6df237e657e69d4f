/-
  Plain facts on rows of texts that the call made: what they read as, that they stay, what is stored and appended. Conditions: each fact's own.
-/
import Derived.Test.YtjcombfcilbafaeDoorPlain
import Derived.Lib.ItoaNum
import Derived.Lib.ItoaMem
namespace Go.Proofs.YtjcombfcilbafaeDoor
open Go.RowKit

def StrsIn (w : World) (p : Option Addr) (n : Nat) (ts : List ByteArray) : Prop :=
  0 < n → ∃ b o, p = some ⟨b, o, none⟩ ∧ ∀ i, i < n → w.cell? ⟨b, o + i, none⟩ = some (.string (ts.getD i ByteArray.empty))

def OwnS (e : Nat) (w : World) (lo hi : Nat) (v : Value) (n : Nat) (ts : List ByteArray) : Prop := w.ownsRow lo e 1 v n (ts.map Value.string) ∧ ∀ k, v.ownBlock = some k → k < hi

section
variable {e : Nat} {w w' a : World} {lo hi lo' hi' : Nat} {u v : Value} {n m : Nat} {ts us : List ByteArray}

theorem OwnS.of (h : w.ownsRow lo e 1 v n (ts.map Value.string)) : OwnS e w lo w.heap.size v n ts := ⟨h, fun k hk => (h.lt k hk).2⟩
theorem OwnS.on (h : OwnS e w lo hi v n ts) (hb : Below w.heap.size w w') : OwnS e w' lo hi v n ts := ⟨owns_below h.1 hb, h.2⟩
theorem OwnS.far (h : OwnS e w lo hi v n ts) (hg : w.grownBy w' u.ownBlock) (hu : OwnS e w lo' hi' u m us) (hd : hi ≤ lo' ∨ hi' ≤ lo) : OwnS e w' lo hi v n ts := by
  refine ⟨h.1.kept hg ?_, h.2⟩
  rcases hv : v.ownBlock with _ | k
  · exact .inl rfl
  · right
    intro he
    have h1 := h.2 k hv
    have h2 := (h.1.lt k hv).1
    have h3 := hu.2 k he.symm
    have h4 := (hu.1.lt k he.symm).1
    omega
theorem OwnS.len (h : OwnS e w lo hi v n ts) : ts.length = n := by have := h.1.1; simpa using this
theorem OwnS.texts {p : Option Addr} {c : Nat} (h : OwnS e w lo hi (.slice p n c) n ts) : StrsIn w p n ts := by
  intro hn
  have hl := h.len
  rcases h.1.2 with ⟨_, h0⟩ | ⟨g, cap, cur, hv, _, _⟩
  · omega
  · simp only [Value.slice.injEq] at hv
    obtain ⟨rfl, _, rfl⟩ := hv
    refine ⟨g, 0, rfl, fun i hi => ?_⟩
    have := h.1.cellAt i (by omega)
    simp only [Nat.zero_add]
    rw [this]
    simp [List.getElem?_eq_getElem (show i < ts.length by omega)]
theorem OwnS.bytes {p : Option Addr} {c : Nat} (h : OwnS e w lo hi (.slice p n c) n ts) : StrsIn w p n ts := h.texts
theorem below_markS (h : Below a.heap.size a w) (hg : w.grownBy w' u.ownBlock) (hu : OwnS e w lo' hi' u m us) (hlo : a.heap.size ≤ lo') : Below a.heap.size a w' :=
  h.grown hg h.size fun k hk => Nat.le_trans hlo (hu.1.lt k hk).1
end

/-- The text that markText makes of k. -/
def mt (k : Nat) : ByteArray := ⟨(109 :: Lib.decDigits k).toArray⟩
def marksS (k n : Nat) : List ByteArray := (List.range n).map fun (i : Nat) => mt (k + i)
theorem marksS_length (k n : Nat) : (marksS k n).length = n := by simp [marksS]
theorem marksS_getD (k n i : Nat) (h : i < n) : (marksS k n).getD i ByteArray.empty = mt (k + i) := by simp [marksS, h]
theorem marksS_step (k : Nat) (ts : List ByteArray) (n j : Nat) (hj : j < n) (hx : ts.length = n) :
    ((marksS k j ++ ts.drop j).map Value.string).set j (.string (mt (k + j))) = (marksS k (j + 1) ++ ts.drop (j + 1)).map Value.string := by
  have e : ts.drop j = ts[j]'(by omega) :: ts.drop (j + 1) := List.drop_eq_getElem_cons (by omega)
  have m : marksS k (j + 1) = marksS k j ++ [mt (k + j)] := by simp [marksS, List.range_succ]
  rw [e, m, List.map_append, List.map_cons, List.set_append_right _ _ (by simp [marksS_length])]
  simp [marksS_length]
theorem marksS_old (k : Nat) (ts : List ByteArray) (n j : Nat) (hj : j < n) (hx : ts.length = n) : ∃ t, ((marksS k j ++ ts.drop j).map Value.string)[j]? = some (.string t) := by
  refine ⟨(marksS k j ++ ts.drop j)[j]'(by simp [marksS_length]; omega), ?_⟩
  rw [List.getElem?_eq_getElem (by simp [marksS_length]; omega), List.getElem_map]
theorem marksS_end (k : Nat) (ts : List ByteArray) (n : Nat) (hx : ts.length = n) : marksS k n ++ ts.drop n = marksS k n := by
  rw [List.drop_of_length_le (by omega), List.append_nil]

theorem take_moreS {xs ys : List ByteArray} {n k : Nat} (hx : xs.length = n) (hy : ys.length = n) (hk : k < n) (h : xs.take k = ys.take k) (e : xs.getD k ByteArray.empty = ys.getD k ByteArray.empty) : xs.take (k + 1) = ys.take (k + 1) := by
  rw [List.take_succ_eq_append_getElem (by omega), List.take_succ_eq_append_getElem (by omega), h]
  simp [List.getElem?_eq_getElem (show k < xs.length by omega), List.getElem?_eq_getElem (show k < ys.length by omega)] at e
  rw [e]
theorem take_allS {xs ys : List ByteArray} {n : Nat} (hx : xs.length = n) (hy : ys.length = n) (h : xs.take n = ys.take n) : xs = ys := by
  rwa [List.take_of_length_le (by omega), List.take_of_length_le (by omega)] at h
theorem text_ne {a b : ByteArray} (h : a ≠ b) : (a.toList == b.toList) = false := by
  rw [beq_eq_false_iff_ne]
  intro e
  rw [ByteArray.toList_eq, ByteArray.toList_eq] at e
  apply h
  cases a; cases b
  simp at e
  rw [e]

section
variable {P : Program} {e : TypeId} {i : TypeInfo} {base n : Nat} {wr : World} {v : Value} {ts : List ByteArray}

/-- 'append(out, t)' of one text, out a row that the call owns (or nil), in a plain region; every other block stays as it was. -/
theorem list_pushS {ops : Array Oper} {rest : List Oper} {o : Oper} {a : Act} {Q : Exit → Act → World → Prop} (hi : P.info? e = some i) (hz : i.zero = some (.string ByteArray.empty)) (hsize : i.size = 1) (hby : i.bytes = 16)
    (s y : Operand) (t : TypeId) (ht : P.underlying t = some (.slice e)) (x : ByteArray) (hown : wr.ownsRow base e 1 v n (ts.map Value.string)) (hn : n ≤ 1099511627776) (hbase : base ≤ wr.heap.size)
    (hgd : o.guard = none) (ho : o.op = .call { callee := .builtin .append, args := #[s, y], argTypes := #[t, t] }) (hs : a.eval s = v) (hy : a.eval y = .slice (some ⟨wr.heap.size, 0, none⟩) 1 1)
    (h : ∀ g cap w', w'.ownsRow base e 1 (.slice (some ⟨g, 0, none⟩) (n + 1) cap) (n + 1) ((ts ++ [x]).map Value.string) → Below base wr w' → (∀ k, k < wr.heap.size → some k ≠ v.ownBlock → w'.heap[k]? = wr.heap[k]?) → wpList P ops Q rest (a.put o.dst (.slice (some ⟨g, 0, none⟩) (n + 1) cap)) w') :
    wpList P ops Q (o :: rest) a (wr.alloc (.cells #[.string x] e)) := by
  refine wpList_append_lies _ hgd s y t ho base e i (.string ByteArray.empty) 1 16 ht hi hz hsize hby rfl (by decide) v n (ts.map Value.string) hs (hown.alloc _) ⟨wr.heap.size, 0, none⟩ 1 1 [.string x] hy rfl ?_ (fun u hu => by simp at hu; subst hu; rfl) (by decide) (by unfold maxLen; omega) (by omega) (by simp; omega) _ rfl ?_
  · exact World.news_of_block (cs := #[.string x]) (heap_alloc_new wr _)
  · intro g cap w' h1 h2 _ _
    refine h g cap w' (by simpa using h1) (((Below.refl _ _).alloc hbase _).grown h2 (by simp; omega) fun k hk => (hown.lt k hk).1) fun k hk hne => ?_
    rw [h2.block k (by simp; omega) hne]
    exact Below.heap_alloc _ _ _ hk
end

end Go.Proofs.YtjcombfcilbafaeDoor
