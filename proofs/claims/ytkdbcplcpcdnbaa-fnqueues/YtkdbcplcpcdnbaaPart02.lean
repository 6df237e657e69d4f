/-
  The laws' own functions of lists of items: whether two say the same, their size. Conditions: items that lie there.
  The size of a list of items, as the laws reckon it. Conditions: items that lie there, lengths that there can be.
  What the laws of lists of items are told: their size, what is asked of each. Conditions: none beyond each fact's own.
  The laws' own mark as a text. Condition: a number above 0 that is not great.
  Plain facts on worlds and lists of ints for the proofs of this seat, as those of Plain on bytes: what a row of ints that the call made reads as, that it stays, what is stored into it and appended to it; and an append of bytes that lie somewhere. Conditions: none beyond each fact's own.
  What slices.Grow of nil and slices.Concat of slices of bytes do: a row of the call's own, empty with room; the bytes of all, one behind the other. Conditions: at least one byte, and at most 2^30.
  A map by texts whose values are taken as they are: what it has of each text. Conditions: none beyond each fact's own.
  A shelf: a map by route whose rows tell, in order, what waits for each route. Conditions: none beyond each fact's own.
-/
import Derived.Test.YtkdbcplcpcdnbaaPart01
import Derived.Deep.RegionHeld3
import Derived.Lib.AppendZeros
import Derived.Maps.OwnSet
import Derived.Maps.RangeWalk
import Derived.Maps.Ext
namespace Go.Proofs.Ytkdbcplcpcdnbaa
open Go.RowKit
set_option maxRecDepth 100000

/-- An item's bytes lie there. -/
structure ItA.Lies (w : World) (x : ItA) : Prop where
  hn : x.n ≤ 9223372036854775807
  len : x.xs.length = x.n
  bytes : BytesIn w x.p x.n x.xs
theorem ItA.Ok.lies {w : World} {x : ItA} (h : x.Ok w) : x.Lies w := ⟨h.hn, h.len, h.bytes⟩
theorem ItA.Lies.on {w w' : World} {x : ItA} (h : x.Lies w) (b : Below w.heap.size w w') : x.Lies w' := ⟨h.hn, h.len, in_below h.bytes b⟩
theorem OwnItems.lies {w : World} {lo hi : Nat} {v : Value} {n : Nat} {its : List ItA} (h : OwnItems w lo hi v n its) (hm : ∀ x ∈ its, x.xs.length ≤ 1048576) : ∀ x ∈ its, x.Lies w := fun x hx => by
  have hb : Own 5 w lo hi (.slice x.p x.n x.c) x.n x.xs := h.bytes x hx
  exact ⟨by have := hm x hx; have := hb.len; omega, hb.len, hb.bytes⟩

theorem getD_mem {α : Type} [Inhabited α] {l : List α} {k : Nat} (h : k < l.length) : l.getD k default ∈ l := by
  rw [List.getD_eq_getElem?_getD, List.getElem?_eq_getElem h]; exact List.getElem_mem _
theorem take_getD {α : Type} [Inhabited α] {l : List α} {k : Nat} (h : k < l.length) : l.take (k + 1) = l.take k ++ [l.getD k default] := by
  rw [List.take_add_one, List.getElem?_eq_getElem h]
  simp [List.getD_eq_getElem?_getD, List.getElem?_eq_getElem h]

/-- The cells of the item at a place. -/
theorem ItemsIn.at {w : World} {b o n : Nat} {its : List ItA} (h : ∀ i j v, i < n → (its.getD i default).vals[j]? = some v → w.cell? ⟨b, o + i * 4 + j, none⟩ = some v) {k : Nat} (hk : k < n) {x : ItA} (hx : its.getD k default = x) :
    w.cell? ⟨b, o + k * 4, none⟩ = some (.string x.s) ∧ w.cell? ⟨b, o + k * 4 + 1, none⟩ = some (.int .i64 x.t) ∧ w.cell? ⟨b, o + k * 4 + 2, none⟩ = some (.int .i64 x.d) ∧ w.cell? ⟨b, o + k * 4 + 3, none⟩ = some (.slice x.p x.n x.c) := by
  subst hx
  exact ⟨h k 0 _ hk rfl, h k 1 _ hk rfl, h k 2 _ hk rfl, h k 3 _ hk rfl⟩

end Go.Proofs.Ytkdbcplcpcdnbaa

namespace Go.Proofs.Ytkdbcplcpcdnbaa
open Go.RowKit
set_option maxRecDepth 100000

/-- How much the items hold. -/
def totI (its : List ItA) : Nat := (its.map fun x => x.s.size + x.n).sum
theorem totI_step (its : List ItA) (k : Nat) (h : k < its.length) : totI (its.take (k + 1)) = totI (its.take k) + ((its.getD k default).s.size + (its.getD k default).n) := by
  unfold totI
  rw [take_getD h, List.map_append, List.sum_append]
  simp
theorem totI_le (its : List ItA) (k : Nat) : totI (its.take k) ≤ totI its := by
  unfold totI
  have e := congrArg (fun l => (l.map fun (x : ItA) => x.s.size + x.n).sum) (List.take_append_drop k its)
  simp only [List.map_append, List.sum_append] at e
  omega
theorem totI_mem (its : List ItA) (x : ItA) (h : x ∈ its) : x.s.size + x.n ≤ totI its := by
  induction its with
  | nil => simp at h
  | cons y r ih =>
    have e : totI (y :: r) = y.s.size + y.n + totI r := by simp [totI]
    rcases List.mem_cons.1 h with rfl | h
    · omega
    · have := ih h
      omega

end Go.Proofs.Ytkdbcplcpcdnbaa

namespace Go.Proofs.Ytkdbcplcpcdnbaa
open Go.RowKit
set_option maxRecDepth 100000

theorem con_mem {its its' : List ItA} (e : its'.map ItA.con = its.map ItA.con) {x : ItA} (h : x ∈ its') : ∃ y ∈ its, y.con = x.con := by
  have : x.con ∈ its'.map ItA.con := List.mem_map.2 ⟨x, h, rfl⟩
  rw [e] at this
  obtain ⟨y, hy, h2⟩ := List.mem_map.1 this
  exact ⟨y, hy, h2⟩
theorem con_len {its its' : List ItA} (e : its'.map ItA.con = its.map ItA.con) : its'.length = its.length := by
  have := congrArg List.length e
  simpa using this
/-- What is small of the items is so of their copies. -/
theorem small_con {its its' : List ItA} (e : its'.map ItA.con = its.map ItA.con) (h : ∀ x ∈ its, x.s.size ≤ 1048576 ∧ x.xs.length ≤ 1048576) : ∀ x ∈ its', x.s.size ≤ 1048576 ∧ x.xs.length ≤ 1048576 := fun x hx => by
  obtain ⟨y, hy, h2⟩ := con_mem e hx
  have := h y hy
  simp only [ItA.con, Prod.mk.injEq] at h2
  rw [← h2.1, ← h2.2.2.2]
  exact this
theorem small_of {w : World} {its : List ItA} (ok : ∀ x ∈ its, x.Ok w) (h : totI its ≤ 1048576) : ∀ x ∈ its, x.s.size ≤ 1048576 ∧ x.xs.length ≤ 1048576 := fun x hx => by
  have := totI_mem its x hx
  have := (ok x hx).len
  exact ⟨by omega, by omega⟩
theorem fit_of {its : List ItA} (h : totI its ≤ 1048576) : ∀ x ∈ its, x.n ≤ 1048576 := fun x hx => by
  have := totI_mem its x hx
  omega

end Go.Proofs.Ytkdbcplcpcdnbaa

namespace Go.Proofs.Ytkdbcplcpcdnbaa
open Go.RowKit
set_option maxRecDepth 100000

/-- The digits of a number, ahead of a text. -/
def mtD (k : Nat) (out : ByteArray) : ByteArray := if _h : k = 0 then out else mtD (k / 10) (strOfNums [((48 + k % 10 : Nat) : Int)] ++ out)
termination_by k
decreasing_by omega
def mtS (k : Nat) : ByteArray := ({ data := #[109] } : ByteArray) ++ mtD k { data := #[] }
theorem mtD_zero (out : ByteArray) : mtD 0 out = out := by rw [mtD]; simp
theorem mtD_pos (k : Nat) (out : ByteArray) (h : 0 < k) : mtD k out = mtD (k / 10) (strOfNums [((48 + k % 10 : Nat) : Int)] ++ out) := by
  rw [mtD, dif_neg (by omega)]

end Go.Proofs.Ytkdbcplcpcdnbaa

namespace Go.Proofs.Ytkdbcplcpcdnbaa
open Go.RowKit
set_option maxRecDepth 100000

/-- The bytes xs lie in a slice of n elements at p; of one that has none nothing is said. -/
def IntsIn (w : World) (p : Option Addr) (n : Nat) (xs : List Int) : Prop :=
  0 < n → ∃ b o, p = some ⟨b, o, none⟩ ∧ ∀ i, i < n → w.cell? ⟨b, o + i, none⟩ = some (.int .i64 (xs.getD i 0))

/-- What a row of bytes that the call owns reads as. -/
theorem owns_inI {w : World} {base e : Nat} {p : Option Addr} {n c : Nat} {xs : List Int} (h : w.ownsRow base e 1 (.slice p n c) n (xs.map (Value.int .i64))) : IntsIn w p n xs := by
  intro hn
  rcases h.2 with ⟨_, h0⟩ | ⟨g, cap, cur, hv, _, _⟩
  · omega
  · simp only [Value.slice.injEq] at hv
    obtain ⟨rfl, _, rfl⟩ := hv
    refine ⟨g, 0, rfl, fun i hi => ?_⟩
    have hl := h.1
    simp only [List.length_map, Nat.mul_one] at hl
    have := h.cellAt i (by omega)
    simp only [Nat.zero_add]
    rw [this]
    simp [List.getElem?_eq_getElem (show i < xs.length by omega), List.getD]

/-- What lies somewhere lies there behind a step that turned nothing old. -/
theorem in_belowI {w w' : World} {p : Option Addr} {n : Nat} {xs : List Int} (h : IntsIn w p n xs) (hb : Below w.heap.size w w') : IntsIn w' p n xs := by
  intro hn
  obtain ⟨b, o, rfl, hc⟩ := h hn
  refine ⟨b, o, rfl, fun i hi => ?_⟩
  have hlt : b < w.heap.size := World.block_lt_of_cell? w ⟨b, o + i, none⟩ (hc i hi)
  rw [hb.cell (p := ⟨b, o + i, none⟩) hlt]
  exact hc i hi

theorem owns_lenI {w : World} {base e : Nat} {v : Value} {n : Nat} {xs : List Int} (h : w.ownsRow base e 1 v n (xs.map (Value.int .i64))) : xs.length = n := by
  have := h.1; simpa using this

/-- One byte more of xs in the place of a nought. -/
theorem fill_stepI (xs : List Int) (n k : Nat) (u : Int) (hu : u = xs.getD k 0) (hk : k < n) (hx : xs.length = n) :
    ((xs.take k ++ List.replicate (n - k) 0).map (Value.int .i64)).set k (.int .i64 u) = (xs.take (k + 1) ++ List.replicate (n - (k + 1)) 0).map (Value.int .i64) := by
  subst hu
  simp only [List.getD_eq_getElem?_getD]
  apply List.ext_getElem
  · simp; omega
  · intro i h1 h2
    simp only [List.getElem_set, List.getElem_map]
    simp at h1 h2
    by_cases e : k = i
    · subst e
      simp [List.getElem_append, hx, hk]
      intro h; omega
    · simp only [e, if_false]
      by_cases hi : i < k
      · simp [List.getElem_append, hx]
        rw [dif_pos (by omega), dif_pos (by omega)]
      · simp [List.getElem_append, hx]
        rw [dif_neg (by omega), dif_neg (by omega)]

theorem fill_oldI (xs : List Int) (n k : Nat) (hk : k < n) (hx : xs.length = n) : ((xs.take k ++ List.replicate (n - k) 0).map (Value.int .i64))[k]? = some (.int .i64 0) := by
  rw [List.getElem?_eq_getElem (by simp; omega)]
  simp [List.getElem_append, hx]
  intro h; omega

theorem fill_startI (xs : List Int) (n : Nat) : (madeCells #[Value.int .i64 0] n).toList = (xs.take 0 ++ List.replicate (n - 0) 0).map (Value.int .i64) := by
  rw [toList_madeCells_one]
  simp

/-- What is laid by markIntS from k on. -/
def marksI (k : Int) (n : Nat) : List Int := (List.range n).map fun (i : Nat) => (k + (i : Int))

theorem marksI_length (k : Int) (n : Nat) : (marksI k n).length = n := by simp [marksI]

theorem marksI_getD (k : Int) (n i : Nat) (h : i < n) : (marksI k n).getD i 0 = (k + (i : Int)) := by simp [marksI, h]

theorem marksI_step (k : Int) (xs : List Int) (n j : Nat) (u : Int) (hu : u = (k + (j : Int))) (hj : j < n) (hx : xs.length = n) :
    ((marksI k j ++ xs.drop j).map (Value.int .i64)).set j (.int .i64 u) = (marksI k (j + 1) ++ xs.drop (j + 1)).map (Value.int .i64) := by
  subst hu
  have e : xs.drop j = xs[j]'(by omega) :: xs.drop (j + 1) := List.drop_eq_getElem_cons (by omega)
  have m : marksI k (j + 1) = marksI k j ++ [(k + (j : Int))] := by simp [marksI, List.range_succ]
  rw [e, m, List.map_append, List.map_cons, List.set_append_right _ _ (by simp [marksI_length])]
  simp [marksI_length]

theorem marksI_old (k : Int) (xs : List Int) (n j : Nat) (hj : j < n) (hx : xs.length = n) : ∃ u, ((marksI k j ++ xs.drop j).map (Value.int .i64))[j]? = some (.int .i64 u) := by
  refine ⟨(marksI k j ++ xs.drop j)[j]'(by simp [marksI_length]; omega), ?_⟩
  rw [List.getElem?_eq_getElem (by simp [marksI_length]; omega), List.getElem_map]

theorem marksI_end (k : Int) (xs : List Int) (n : Nat) (hx : xs.length = n) : marksI k n ++ xs.drop n = marksI k n := by
  rw [List.drop_of_length_le (by omega), List.append_nil]

/-- A row of bytes xs that the call made: v, of n elements; its block lies from lo on and ahead of hi. -/
def OwnI (e : Nat) (w : World) (lo hi : Nat) (v : Value) (n : Nat) (xs : List Int) : Prop := w.ownsRow lo e 1 v n (xs.map (Value.int .i64)) ∧ ∀ k, v.ownBlock = some k → k < hi

section
variable {e : Nat} {w w' a : World} {lo hi lo' hi' : Nat} {u v : Value} {n m : Nat} {xs ys : List Int}

theorem OwnI.of (h : w.ownsRow lo e 1 v n (xs.map (Value.int .i64))) : OwnI e w lo w.heap.size v n xs := ⟨h, fun k hk => (h.lt k hk).2⟩
theorem OwnI.on (h : OwnI e w lo hi v n xs) (hb : Below w.heap.size w w') : OwnI e w' lo hi v n xs := ⟨owns_below h.1 hb, h.2⟩
theorem OwnI.far (h : OwnI e w lo hi v n xs) (hg : w.grownBy w' u.ownBlock) (hu : OwnI e w lo' hi' u m ys) (hd : hi ≤ lo' ∨ hi' ≤ lo) : OwnI e w' lo hi v n xs := by
  refine ⟨h.1.kept hg ?_, h.2⟩
  rcases hv : v.ownBlock with _ | k
  · exact .inl rfl
  · right
    intro he
    have h1 := h.2 k hv
    have h2 := (h.1.lt k hv).1
    have h3 := hu.2 k he.symm
    have h4 := (hu.1.lt k he.symm).1
    omega
theorem OwnI.len (h : OwnI e w lo hi v n xs) : xs.length = n := owns_lenI h.1
theorem OwnI.ints {p : Option Addr} {c : Nat} (h : OwnI e w lo hi (.slice p n c) n xs) : IntsIn w p n xs := owns_inI h.1
theorem below_markI (h : Below a.heap.size a w) (hg : w.grownBy w' u.ownBlock) (hu : OwnI e w lo' hi' u m ys) (hlo : a.heap.size ≤ lo') : Below a.heap.size a w' :=
  h.grown hg h.size fun k hk => Nat.le_trans hlo (hu.1.lt k hk).1
end

section
variable {P : Program} {e : TypeId} {i : TypeInfo} {base n : Nat} {wr : World} {v : Value} {xs : List Int}

theorem pushs_fitI {n m : Nat} (hn : n ≤ 1099511627776) (hm : m ≤ 1099511627776) : n + m ≤ maxLen ∧ (n + m) * 8 ≤ 140737488355328 := by unfold maxLen; omega

/-- 'append(out, x, y, ..)' of some bytes, out a row that the call owns, as one step of a region that draws its order. -/
theorem step_pushsI {ops : Array Oper} {o : Oper} {a : Act} {K : Act → World → Prop} {Q : Exit → Act → World → Prop} {E : Prop} (hi : P.info? e = some i) (hz : i.zero = some (.int .i64 0)) (hsize : i.size = 1) (hby : i.bytes = 8)
    (s y : Operand) (t : TypeId) (ht : P.underlying t = some (.slice e)) (cs : Array Value) (ys : List Int) (hcs : cs.toList = ys.map (Value.int .i64)) (hm : 0 < ys.length) (hm' : ys.length ≤ 1099511627776)
    (hown : wr.ownsRow base e 1 v n (xs.map (Value.int .i64))) (hn : n ≤ 1099511627776) (hbase : base ≤ wr.heap.size)
    (hgd : o.guard = none) (ho : o.op = .call { callee := .builtin .append, args := #[s, y], argTypes := #[t, t] }) (hs : a.eval s = v) (hy : a.eval y = .slice (some ⟨wr.heap.size, 0, none⟩) ys.length ys.length)
    (h : ∀ g cap w', w'.ownsRow base e 1 (.slice (some ⟨g, 0, none⟩) (n + ys.length) cap) (n + ys.length) ((xs ++ ys).map (Value.int .i64)) → Below base wr w' → K (a.put o.dst (.slice (some ⟨g, 0, none⟩) (n + ys.length) cap)) w') :
    if Region.wanted o (yielded ops a.tmps) = true then Oper.wp P o a (wr.alloc (.cells cs e)).drew K Q else E := by
  refine step_append_lies _ hgd s y t ho base e i (.int .i64 0) 1 8 ht hi hz hsize hby rfl (by decide) v n (xs.map (Value.int .i64)) hs (hown.alloc _).drew ⟨wr.heap.size, 0, none⟩ ys.length ys.length (ys.map (Value.int .i64)) hy (by simp) ?_ (ints_oneCell _ _) hm (pushs_fitI hn hm').1 (pushs_fitI hn hm').2 (by simp; omega) _ rfl ?_
  · rw [← hcs]
    exact World.news_of_block (cs := cs) (heap_alloc_new wr _)
  · intro g cap w' h1 h2 _ _
    refine h g cap w' (by simpa using h1) (((Below.refl _ _).alloc hbase _).drew.grown h2 (by simp; omega) fun k hk => (hown.lt k hk).1)

/-- The same in a plain region. -/
theorem list_pushsI {ops : Array Oper} {rest : List Oper} {o : Oper} {a : Act} {Q : Exit → Act → World → Prop} (hi : P.info? e = some i) (hz : i.zero = some (.int .i64 0)) (hsize : i.size = 1) (hby : i.bytes = 8)
    (s y : Operand) (t : TypeId) (ht : P.underlying t = some (.slice e)) (cs : Array Value) (ys : List Int) (hcs : cs.toList = ys.map (Value.int .i64)) (hm : 0 < ys.length) (hm' : ys.length ≤ 1099511627776)
    (hown : wr.ownsRow base e 1 v n (xs.map (Value.int .i64))) (hn : n ≤ 1099511627776) (hbase : base ≤ wr.heap.size)
    (hgd : o.guard = none) (ho : o.op = .call { callee := .builtin .append, args := #[s, y], argTypes := #[t, t] }) (hs : a.eval s = v) (hy : a.eval y = .slice (some ⟨wr.heap.size, 0, none⟩) ys.length ys.length)
    (h : ∀ g cap w', w'.ownsRow base e 1 (.slice (some ⟨g, 0, none⟩) (n + ys.length) cap) (n + ys.length) ((xs ++ ys).map (Value.int .i64)) → Below base wr w' → wpList P ops Q rest (a.put o.dst (.slice (some ⟨g, 0, none⟩) (n + ys.length) cap)) w') :
    wpList P ops Q (o :: rest) a (wr.alloc (.cells cs e)) := by
  refine wpList_append_lies _ hgd s y t ho base e i (.int .i64 0) 1 8 ht hi hz hsize hby rfl (by decide) v n (xs.map (Value.int .i64)) hs (hown.alloc _) ⟨wr.heap.size, 0, none⟩ ys.length ys.length (ys.map (Value.int .i64)) hy (by simp) ?_ (ints_oneCell _ _) hm (pushs_fitI hn hm').1 (pushs_fitI hn hm').2 (by simp; omega) _ rfl ?_
  · rw [← hcs]
    exact World.news_of_block (cs := cs) (heap_alloc_new wr _)
  · intro g cap w' h1 h2 _ _
    refine h g cap w' (by simpa using h1) (((Below.refl _ _).alloc hbase _).grown h2 (by simp; omega) fun k hk => (hown.lt k hk).1)

/-- One byte in a plain region, and every other block stays as it was. -/
theorem list_pushKI {ops : Array Oper} {rest : List Oper} {o : Oper} {a : Act} {Q : Exit → Act → World → Prop} (hi : P.info? e = some i) (hz : i.zero = some (.int .i64 0)) (hsize : i.size = 1) (hby : i.bytes = 8)
    (s y : Operand) (t : TypeId) (ht : P.underlying t = some (.slice e)) (x : Int) (hown : wr.ownsRow base e 1 v n (xs.map (Value.int .i64))) (hn : n ≤ 1099511627776) (hbase : base ≤ wr.heap.size)
    (hgd : o.guard = none) (ho : o.op = .call { callee := .builtin .append, args := #[s, y], argTypes := #[t, t] }) (hs : a.eval s = v) (hy : a.eval y = .slice (some ⟨wr.heap.size, 0, none⟩) 1 1)
    (h : ∀ g cap w', w'.ownsRow base e 1 (.slice (some ⟨g, 0, none⟩) (n + 1) cap) (n + 1) ((xs ++ [x]).map (Value.int .i64)) → Below base wr w' → (∀ k, k < wr.heap.size → some k ≠ v.ownBlock → w'.heap[k]? = wr.heap[k]?) → wpList P ops Q rest (a.put o.dst (.slice (some ⟨g, 0, none⟩) (n + 1) cap)) w') :
    wpList P ops Q (o :: rest) a (wr.alloc (.cells #[.int .i64 x] e)) := by
  refine wpList_append_lies _ hgd s y t ho base e i (.int .i64 0) 1 8 ht hi hz hsize hby rfl (by decide) v n (xs.map (Value.int .i64)) hs (hown.alloc _) ⟨wr.heap.size, 0, none⟩ 1 1 [.int .i64 x] hy rfl ?_ (fun u hu => by simp at hu; subst hu; rfl) (by decide) (pushs_fitI hn (by decide)).1 (pushs_fitI hn (by decide)).2 (by simp; omega) _ rfl ?_
  · exact World.news_of_block (cs := #[.int .i64 x]) (heap_alloc_new wr _)
  · intro g cap w' h1 h2 _ _
    refine h g cap w' (by simpa using h1) (((Below.refl _ _).alloc hbase _).grown h2 (by simp; omega) fun k hk => (hown.lt k hk).1) fun k hk hne => ?_
    rw [h2.block k (by simp; omega) hne]
    exact Below.heap_alloc _ _ _ hk

/-- One byte. -/
theorem step_pushI {ops : Array Oper} {o : Oper} {a : Act} {K : Act → World → Prop} {Q : Exit → Act → World → Prop} {E : Prop} (hi : P.info? e = some i) (hz : i.zero = some (.int .i64 0)) (hsize : i.size = 1) (hby : i.bytes = 8)
    (s y : Operand) (t : TypeId) (ht : P.underlying t = some (.slice e)) (x : Int) (hown : wr.ownsRow base e 1 v n (xs.map (Value.int .i64))) (hn : n ≤ 1099511627776) (hbase : base ≤ wr.heap.size)
    (hgd : o.guard = none) (ho : o.op = .call { callee := .builtin .append, args := #[s, y], argTypes := #[t, t] }) (hs : a.eval s = v) (hy : a.eval y = .slice (some ⟨wr.heap.size, 0, none⟩) 1 1)
    (h : ∀ g cap w', w'.ownsRow base e 1 (.slice (some ⟨g, 0, none⟩) (n + 1) cap) (n + 1) ((xs ++ [x]).map (Value.int .i64)) → Below base wr w' → K (a.put o.dst (.slice (some ⟨g, 0, none⟩) (n + 1) cap)) w') :
    if Region.wanted o (yielded ops a.tmps) = true then Oper.wp P o a (wr.alloc (.cells #[.int .i64 x] e)).drew K Q else E :=
  step_pushsI hi hz hsize hby s y t ht #[.int .i64 x] [x] rfl (by simp) (by simp) hown hn hbase hgd ho hs hy h

theorem list_pushI {ops : Array Oper} {rest : List Oper} {o : Oper} {a : Act} {Q : Exit → Act → World → Prop} (hi : P.info? e = some i) (hz : i.zero = some (.int .i64 0)) (hsize : i.size = 1) (hby : i.bytes = 8)
    (s y : Operand) (t : TypeId) (ht : P.underlying t = some (.slice e)) (x : Int) (hown : wr.ownsRow base e 1 v n (xs.map (Value.int .i64))) (hn : n ≤ 1099511627776) (hbase : base ≤ wr.heap.size)
    (hgd : o.guard = none) (ho : o.op = .call { callee := .builtin .append, args := #[s, y], argTypes := #[t, t] }) (hs : a.eval s = v) (hy : a.eval y = .slice (some ⟨wr.heap.size, 0, none⟩) 1 1)
    (h : ∀ g cap w', w'.ownsRow base e 1 (.slice (some ⟨g, 0, none⟩) (n + 1) cap) (n + 1) ((xs ++ [x]).map (Value.int .i64)) → Below base wr w' → wpList P ops Q rest (a.put o.dst (.slice (some ⟨g, 0, none⟩) (n + 1) cap)) w') :
    wpList P ops Q (o :: rest) a (wr.alloc (.cells #[.int .i64 x] e)) :=
  list_pushsI hi hz hsize hby s y t ht #[.int .i64 x] [x] rfl (by simp) (by simp) hown hn hbase hgd ho hs hy h
end


section
variable {e e' : Nat} {w w' a : World} {lo hi lo' hi' : Nat} {u v : Value} {n m : Nat} {xs ys : List Int}
/-- A row of bytes stays where ints that lie apart are marked. -/
theorem Own.farI (h : Own e w lo hi v n xs) (hg : w.grownBy w' u.ownBlock) (hu : OwnI e' w lo' hi' u m ys) (hd : hi ≤ lo' ∨ hi' ≤ lo) : Own e w' lo hi v n xs := by
  refine ⟨h.1.kept hg ?_, h.2⟩
  rcases hv : v.ownBlock with _ | k
  · exact .inl rfl
  · right
    intro he
    have h1 := h.2 k hv
    have h2 := (h.1.lt k hv).1
    have h3 := hu.2 k he.symm
    have h4 := (hu.1.lt k he.symm).1
    omega
/-- A row of ints stays where bytes that lie apart are marked. -/
theorem OwnI.farB (h : OwnI e w lo hi v n xs) (hg : w.grownBy w' u.ownBlock) (hu : Own e' w lo' hi' u m ys) (hd : hi ≤ lo' ∨ hi' ≤ lo) : OwnI e w' lo hi v n xs := by
  refine ⟨h.1.kept hg ?_, h.2⟩
  rcases hv : v.ownBlock with _ | k
  · exact .inl rfl
  · right
    intro he
    have h1 := h.2 k hv
    have h2 := (h.1.lt k hv).1
    have h3 := hu.2 k he.symm
    have h4 := (hu.1.lt k he.symm).1
    omega
end

theorem Own.cap {e : Nat} {w : World} {lo hi : Nat} {p : Option Addr} {n c : Nat} {xs : List Int} (h : Own e w lo hi (.slice p n c) n xs) : n ≤ c := by
  rcases h.1.2 with ⟨hv, hn⟩ | ⟨g, cap, cur, hv, _, _, hc, _⟩
  · omega
  · simp only [Value.slice.injEq] at hv
    omega

/-- WHAT THE WALK IS TOLD OF A SLICE OF INTS THAT CAME IN. -/
theorem row_inI {w : World} {a : Option Addr} {len cap : Nat} {zs : List Int}
    (h : (a = none ∧ len = 0 ∧ cap = 0 ∧ zs = []) ∨ ∃ x, a = some x ∧ len ≤ cap ∧ cap ≤ maxLen ∧ zs.length = cap ∧ (∀ i, i < zs.length → w.cell? (x.add i) = some (.int .i64 (zs.getD i 0))) ∧ ∀ n ∈ zs, (Lit.int .i64 n).wf = true) :
    (zs.take len).length = len ∧ IntsIn w a len (zs.take len) ∧ ∀ x ∈ zs.take len, -9223372036854775808 ≤ x ∧ x ≤ 9223372036854775807 := by
  rcases h with ⟨rfl, rfl, rfl, rfl⟩ | ⟨x, rfl, hl, hm, hz, hcell, hwz⟩
  · exact ⟨rfl, fun h => absurd h (Nat.lt_irrefl 0), fun x hx => by simp at hx⟩
  · refine ⟨by simp; omega, fun hn => ?_, fun y hy => ?_⟩
    · obtain ⟨b, off, spot⟩ := x
      have hc := hcell 0 (by omega)
      have hspot : spot = none := by simpa [Addr.add] using World.cell?_spot hc
      subst hspot
      refine ⟨b, off, rfl, fun i hi => ?_⟩
      have := hcell i (by omega)
      rw [Addr.add_lit] at this
      rw [this]
      simp [hi]
    · have := bounds_i64 (hwz y (List.mem_of_mem_take hy))
      omega

section
variable {P : Program} {e : TypeId} {i : TypeInfo} {base n m c : Nat} {wr : World} {v : Value} {p : Option Addr} {xs ys : List Int}
theorem news_of_in {wr : World} {b o m : Nat} {ys : List Int} (hl : ys.length = m) (hc : ∀ i, i < m → wr.cell? ⟨b, o + i, none⟩ = some (.int .u8 (ys.getD i 0))) : ∀ j u, (ys.map (Value.int .u8))[j]? = some u → wr.cell? ((⟨b, o, none⟩ : Addr).add j) = some u := by
  intro j u hj
  have hjl : j < ys.length := by
    rcases Nat.lt_or_ge j ys.length with h | h
    · exact h
    · simp [List.getElem?_eq_none (show (ys.map (Value.int .u8)).length ≤ j by simpa using h)] at hj
  have hplain : (⟨b, o, none⟩ : Addr).add j = ⟨b, o + j, none⟩ := by unfold Addr.add; split <;> simp_all
  rw [hplain, hc j (by omega)]
  simpa [List.getD, List.getElem?_eq_getElem hjl] using hj

/-- 'append(out, b...)' in a plain region: out a row that the call owns, b bytes that lie somewhere, at least one. -/
theorem list_spread {ops : Array Oper} {rest : List Oper} {o : Oper} {a : Act} {Q : Exit → Act → World → Prop} (hi : P.info? e = some i) (hz : i.zero = some (.int .u8 0)) (hsize : i.size = 1) (hby : i.bytes = 1)
    (s y : Operand) (t : TypeId) (ht : P.underlying t = some (.slice e)) (hown : wr.ownsRow base e 1 v n (xs.map (Value.int .u8))) (hin : BytesIn wr p m ys) (hl : ys.length = m) (hm : 0 < m) (hm' : m ≤ 1099511627776)
    (hn : n ≤ 1099511627776) (hbase : base ≤ wr.heap.size)
    (hgd : o.guard = none) (ho : o.op = .call { callee := .builtin .append, args := #[s, y], argTypes := #[t, t] }) (hs : a.eval s = v) (hy : a.eval y = .slice p m c)
    (h : ∀ g cap w', w'.ownsRow base e 1 (.slice (some ⟨g, 0, none⟩) (n + m) cap) (n + m) ((xs ++ ys).map (Value.int .u8)) → wr.grownBy w' v.ownBlock → Below base wr w' → wpList P ops Q rest (a.put o.dst (.slice (some ⟨g, 0, none⟩) (n + m) cap)) w') :
    wpList P ops Q (o :: rest) a wr := by
  obtain ⟨b, of, rfl, hc⟩ := hin hm
  refine wpList_append_lies _ hgd s y t ho base e i (.int .u8 0) 1 1 ht hi hz hsize hby rfl (by decide) v n (xs.map (Value.int .u8)) hs hown ⟨b, of, none⟩ m c (ys.map (Value.int .u8)) hy (by simp [hl]) (news_of_in hl hc) (ints_oneCell _ _) hm (pushs_fit hn hm').1 (pushs_fit hn hm').2 hbase _ rfl ?_
  intro g cap w' h1 h2 _ _
  exact h g cap w' (by simpa using h1) h2 ((Below.refl _ _).grown h2 hbase fun k hk => (hown.lt k hk).1)

theorem step_spread {ops : Array Oper} {o : Oper} {a : Act} {K : Act → World → Prop} {Q : Exit → Act → World → Prop} {E : Prop} (hi : P.info? e = some i) (hz : i.zero = some (.int .u8 0)) (hsize : i.size = 1) (hby : i.bytes = 1)
    (s y : Operand) (t : TypeId) (ht : P.underlying t = some (.slice e)) (hown : wr.ownsRow base e 1 v n (xs.map (Value.int .u8))) (hin : BytesIn wr p m ys) (hl : ys.length = m) (hm : 0 < m) (hm' : m ≤ 1099511627776)
    (hn : n ≤ 1099511627776) (hbase : base ≤ wr.heap.size)
    (hgd : o.guard = none) (ho : o.op = .call { callee := .builtin .append, args := #[s, y], argTypes := #[t, t] }) (hs : a.eval s = v) (hy : a.eval y = .slice p m c)
    (h : ∀ g cap w', w'.ownsRow base e 1 (.slice (some ⟨g, 0, none⟩) (n + m) cap) (n + m) ((xs ++ ys).map (Value.int .u8)) → wr.grownBy w' v.ownBlock → Below base wr w' → K (a.put o.dst (.slice (some ⟨g, 0, none⟩) (n + m) cap)) w') :
    if Region.wanted o (yielded ops a.tmps) = true then Oper.wp P o a wr K Q else E := by
  obtain ⟨b, of, rfl, hc⟩ := hin hm
  refine step_append_lies _ hgd s y t ho base e i (.int .u8 0) 1 1 ht hi hz hsize hby rfl (by decide) v n (xs.map (Value.int .u8)) hs hown ⟨b, of, none⟩ m c (ys.map (Value.int .u8)) hy (by simp [hl]) (news_of_in hl hc) (ints_oneCell _ _) hm (pushs_fit hn hm').1 (pushs_fit hn hm').2 hbase _ rfl ?_
  intro g cap w' h1 h2 _ _
  exact h g cap w' (by simpa using h1) h2 ((Below.refl _ _).grown h2 hbase fun k hk => (hown.lt k hk).1)
end

end Go.Proofs.Ytkdbcplcpcdnbaa

namespace Go.Proofs.Ytkdbcplcpcdnbaa
open Go.RowKit
set_option maxRecDepth 100000

theorem append_empty {P : Program} (w : World) (t ty e : TypeId) (i : TypeInfo) (ht : P.underlying t = some (.slice e)) (hi : P.info? e = some i) (b : Option Addr) (n cap : Nat) (p : Option Addr) (c : Nat) (h : n ≤ cap) :
    (Builtin.append_ #[t, t] ty #[.slice b n cap, .slice p 0 c]).run P w = .ok (.slice b n cap) w := by
  cases p <;> cases b <;> simp [Builtin.append_, run_underlying ht, sizeOf, typeInfo, hi, Builtin.lenOf, Builtin.firstCells, loadCells, loadCellsFrom, storeCells, h]

theorem owns_cap {w : World} {base e : Nat} {p : Option Addr} {n c : Nat} {xs : List Value} (h : w.ownsRow base e 1 (.slice p n c) n xs) : n ≤ c := by
  rcases h.2 with ⟨hv, h0⟩ | ⟨g, cap, cur, hv, _, _, hnc, _⟩
  · omega
  · simp only [Value.slice.injEq] at hv
    obtain ⟨_, _, rfl⟩ := hv
    exact hnc

section
variable {P : Program} {e : TypeId} {i : TypeInfo} {base n m c : Nat} {wr : World} {q p : Option Addr} {cq : Nat} {xs ys : List Int}
/-- 'append(out, b...)' of bytes that lie somewhere, none of them too. -/
theorem list_spreadA {ops : Array Oper} {rest : List Oper} {o : Oper} {a : Act} {Q : Exit → Act → World → Prop} (hi : P.info? e = some i) (hz : i.zero = some (.int .u8 0)) (hsize : i.size = 1) (hby : i.bytes = 1)
    (s y : Operand) (t : TypeId) (ht : P.underlying t = some (.slice e)) (hown : wr.ownsRow base e 1 (.slice q n cq) n (xs.map (Value.int .u8))) (hin : BytesIn wr p m ys) (hl : ys.length = m) (hm' : m ≤ 1099511627776)
    (hn : n ≤ 1099511627776) (hbase : base ≤ wr.heap.size)
    (hgd : o.guard = none) (ho : o.op = .call { callee := .builtin .append, args := #[s, y], argTypes := #[t, t] }) (hs : a.eval s = .slice q n cq) (hy : a.eval y = .slice p m c)
    (h : ∀ p' cap w', w'.ownsRow base e 1 (.slice p' (n + m) cap) (n + m) ((xs ++ ys).map (Value.int .u8)) → Below base wr w' → wpList P ops Q rest (a.put o.dst (.slice p' (n + m) cap)) w') :
    wpList P ops Q (o :: rest) a wr := by
  rcases Nat.eq_zero_or_pos m with h0 | h0
  · subst h0
    obtain rfl : ys = [] := List.eq_nil_of_length_eq_zero hl
    simp only [List.append_nil, Nat.add_zero] at h
    exact Lib.wpList_append_run wr hgd s y t t ho _ _ hs hy _ _ (append_empty wr t o.type e i ht hi q n cq p c (owns_cap hown)) (h _ _ _ hown (Below.refl _ _))
  · refine list_spread hi hz hsize hby s y t ht hown hin hl h0 hm' hn hbase hgd ho hs hy ?_
    intro g cap w' h1 _ h3
    exact h _ _ _ h1 h3
end

set_option maxHeartbeats 2000000 in
theorem growNil_any (n : Nat) (w : World) (h0 : 0 < n) (hn : n ≤ 1073741824) :
    Calls Try.prog 89 #[.slice none 0 0, .int .i64 n] w fun e w' => ∃ p c, e = .returned (.slice p 0 c) ∧ w'.ownsRow w.heap.size 5 1 (.slice p 0 c) 0 (([] : List Int).map (Value.int .u8)) ∧ Below w.heap.size w w' := by
  obtain ⟨i0, hi, hz0, hz1, hz2⟩ := info_parts infoByte
  have h1 : ¬ ((n : Int) < 0) := by omega
  have h4 : (n : Int) > 0 := by omega
  have hrz := fun ty => Lib.run_append_nil_zeros (P := Try.prog) w 22 3 ty 5 i0 (.int .u8 0) .i64 .i64 Try.underlying22 Try.underlying3 hi hz0 n h0 (by omega) (by omega) (by rw [hz2]; omega)
  have hge := grownCap_ge w n 0 5
  have hcm := grownCap_le_maxLen w n 0 5 (by unfold maxLen; omega)
  generalize grownCap w n 0 5 = G at hrz hge hcm
  have hown : (w.drew.alloc (.cells (Builtin.zeroCells (Value.cells (.int .u8 0)) n ++ Builtin.zeroCells (Value.cells (.int .u8 0)) (G - n)) 5)).ownsRow w.heap.size 5 1 (.slice (some ⟨w.heap.size, 0, none⟩) 0 G) 0 (([] : List Int).map (Value.int .u8)) :=
    World.ownsRow_made w.drew _ G (by simp) hcm (by simp [size_zeroCells, Value.cells]; omega)
  have hbel : Below w.heap.size w (w.drew.alloc (.cells (Builtin.zeroCells (Value.cells (.int .u8 0)) n ++ Builtin.zeroCells (Value.cells (.int .u8 0)) (G - n)) 5)) := (Below.refl _ _).drew.alloc (by simp) _
  generalize w.drew.alloc (.cells (Builtin.zeroCells (Value.cells (.int .u8 0)) n ++ Builtin.zeroCells (Value.cells (.int .u8 0)) (G - n)) 5) = w1 at hrz hown hbel
  unfold maxLen at hcm
  go_enter Try.func89, Try.ntmps89
  go_wp2_with (at_builtin; refine Lib.wpList_append_run _ rfl _ _ _ _ rfl _ _ rfl rfl _ _ (hrz _) ?_)
  all_goals (go_ret; exact ⟨_, _, rfl, hown, hbel⟩)

def sumN (nf : Nat → Nat) : Nat → Nat
  | 0 => 0
  | k + 1 => sumN nf k + nf k
def catL (xf : Nat → List Int) : Nat → List Int
  | 0 => []
  | k + 1 => catL xf k ++ xf k
theorem sumN_le (nf : Nat → Nat) {k m : Nat} (h : k ≤ m) : sumN nf k ≤ sumN nf m := by
  induction m with
  | zero => rw [show k = 0 by omega]; exact Nat.le_refl _
  | succ m ih =>
    by_cases e : k = m + 1
    · rw [e]; exact Nat.le_refl _
    · have := ih (by omega)
      simp only [sumN]
      omega

set_option maxHeartbeats 4000000 in
theorem concat_any (gr m : Nat) (Pf : Nat → Option Addr) (nf cf : Nat → Nat) (xf : Nat → List Int) (w : World) (hm : m ≤ 1000) (hcell : ∀ k, k < m → w.cell? ⟨gr, k, none⟩ = some (.slice (Pf k) (nf k) (cf k)))
    (hlen : ∀ k, k < m → (xf k).length = nf k) (hin : ∀ k, k < m → BytesIn w (Pf k) (nf k) (xf k)) (h0 : 0 < sumN nf m) (hs : sumN nf m ≤ 1073741824) :
    Calls Try.prog 69 #[.slice (some ⟨gr, 0, none⟩) m m] w fun e w' => ∃ p c, e = .returned (.slice p (sumN nf m) c) ∧ Own 5 w' w.heap.size w'.heap.size (.slice p (sumN nf m) c) (sumN nf m) (catL xf m) ∧ Below w.heap.size w w' := by
  obtain ⟨i0, hi, hz0, hz1, hz2⟩ := info_parts infoByte
  have HC : Hid (∀ k, k < m → w.cell? ⟨gr, k, none⟩ = some (.slice (Pf k) (nf k) (cf k))) := hcell
  have HL : Hid (∀ k, k < m → (xf k).length = nf k) := hlen
  have HI : Hid (∀ k, k < m → BytesIn w (Pf k) (nf k) (xf k)) := hin
  clear hcell hlen hin
  go_enter Try.func69, Try.ntmps69
  go_wp2
  go_loop [3, 11] (fun v i => ∃ k s : Nat, k ≤ m ∧ i = .int .i64 k ∧ v = .int .i64 s ∧ Hid (s = sumN nf k)) (fun _ i => m - (intOf i).toNat)
  case atStart => exact ⟨0, 0, by omega, rfl, rfl, rfl⟩
  case round =>
    obtain ⟨k, s, hk, rfl, rfl, hsk⟩ := hrel
    by_cases hlt : k < m
    · have hc := HC.out k hlt
      have hle : s + nf k ≤ 1073741824 := by rw [hsk.out]; exact Nat.le_trans (sumN_le nf (k := k + 1) hlt) hs
      have HN : Hid (s + nf k = sumN nf (k + 1)) := by rw [hsk.out]; rfl
      generalize nf k = n1 at hc hle HN
      generalize Pf k = p1 at hc
      generalize cf k = c1 at hc
      have hneg : ¬ ((s : Int) + (n1 : Int) < 0) := by omega
      go_wp2
      go_round
      case rel => exact ⟨k + 1, s + n1, by omega, by go_num, by go_num, HN⟩
      case measure => simp [intOf]; omega
    · obtain rfl : k = m := by omega
      obtain rfl : s = sumN nf k := hsk.out
      clear hsk
      have HS : Hid (sumN nf k = sumN nf k) := rfl
      generalize hN : sumN nf k = N at h0 hs HS ⊢
      clear HS
      have HNn : Hid (sumN nf k = N) := hN
      clear hN
      have hneg : ¬ ((N : Int) < 0) := by omega
      go_wp2_with (fail)
      refine (growNil_any N _ h0 hs).mono ?_
      rintro e w1 ⟨p1, c1, rfl, ho1, b1⟩
      go_wp2_with (fail)
      go_loopw [6, 27] (fun v i wr => ∃ j s : Nat, j ≤ k ∧ i = .int .i64 j ∧ Hid (s = sumN nf j) ∧ wr.ownsRow w.heap.size 5 1 v s ((catL xf j).map (Value.int .u8)) ∧ Below w.heap.size w wr)
        (fun _ i _ => k - (intOf i).toNat)
      case atStart => exact ⟨0, 0, by omega, rfl, rfl, ho1, b1⟩
      case round =>
        clear ho1 b1
        obtain ⟨j, s, hj, rfl, hsj, hown, hbel⟩ := hrel
        have hsz := hbel.size
        by_cases hlt2 : j < k
        · have hc := HC.out j hlt2
          have hgr : gr < w.heap.size := World.block_lt_of_cell? w ⟨gr, j, none⟩ hc
          have hc2 := (hbel.cell (p := ⟨gr, j, none⟩) hgr).trans hc
          have hle : s + nf j ≤ N := by rw [hsj.out, ← HNn.out]; exact sumN_le nf (k := j + 1) hlt2
          have HN : Hid (s + nf j = sumN nf (j + 1)) := by rw [hsj.out]; rfl
          have hl := HL.out j hlt2
          have hI := HI.out j hlt2
          replace hI : BytesIn wr (Pf j) (nf j) (xf j) := by
            intro hpos
            obtain ⟨bb, oo, e1, e2⟩ := hI hpos
            exact ⟨bb, oo, e1, fun i hi => (hbel.cell (p := ⟨bb, oo + i, none⟩) (World.block_lt_of_cell? w ⟨bb, oo + i, none⟩ (e2 i hi))).trans (e2 i hi)⟩
          have HX : Hid (catL xf j ++ xf j = catL xf (j + 1)) := rfl
          generalize nf j = n1 at hc hc2 hle HN hl hI
          generalize Pf j = p1 at hc hc2 hI
          generalize cf j = c1 at hc hc2
          generalize xf j = y1 at hl hI HX
          obtain ⟨q, cq, hv⟩ := owns_form hown
          subst hv
          clear hc
          go_wp2_with (at_builtin; refine list_spreadA hi hz0 hz1 hz2 (.tmp 31) (.tmp 32) 22 Try.underlying22 hown hI hl (by omega) (by omega) hsz (by rfl) (by rfl) (by rfl) (by rfl) ?_; intro p' cap w3 ho3 hb3; rw [HX.out] at ho3)
          go_roundw
          case rel => exact ⟨j + 1, s + n1, by omega, by go_num, HN, ho3, hbel.trans hb3⟩
          case measure => simp [intOf]; omega
        · obtain rfl : j = k := by omega
          obtain rfl : s = N := hsj.out.trans HNn.out
          obtain ⟨q, cq, hv⟩ := owns_form hown
          subst hv
          go_wp2
          go_ret
          rw [HNn.out]
          exact ⟨_, _, rfl, .of hown, hbel⟩

end Go.Proofs.Ytkdbcplcpcdnbaa

namespace Go.Proofs.Ytkdbcplcpcdnbaa
open Go.RowKit
set_option maxRecDepth 100000

def tokR (v : Value) : Option (DataW Value × List MemPlace) := some (.held v, [])
def kl (s : ByteArray) : Lit := .string s.data.toList
theorem kl_inj {s s' : ByteArray} (h : kl s = kl s') : s = s' := by
  simp only [kl, Lit.string.injEq] at h
  exact ByteArray.ext (Array.toList_inj.1 h)
theorem keyedS : Maps.Keyed Try.prog 9 := Maps.string_keyed Try.underlying9
theorem keyS (s : ByteArray) (h : s.size ≤ 1048576) : keyOf Try.prog 9 (.string s) = some (kl s) := Go.WideMaps.keyOf_string_mk Try.underlying9 (by unfold maxLen; omega)
theorem zeroRow (w : World) : (zeroValue 76).run Try.prog w = .ok (.slice none 0 0) w := by kernel_rfl

/-- What a reading has of a text. -/
def SaysM (D : DataW Value) (m : ByteArray → Option Value) : Prop := ∀ s, (m s = none → ∀ z, D.atKey (kl s) z = z) ∧ ∀ v, m s = some v → ∀ z, D.atKey (kl s) z = .held v
/-- Block B is a map of at most n texts that has of each text what m says. -/
def MapW (w : World) (B n : Nat) (m : ByteArray → Option Value) : Prop := ∃ D : DataW Value, w.ownsMap Try.prog 9 tokR B n D ∧ SaysM D m

theorem MapW.made (w : World) : MapW (w.alloc (.map #[] 0)) w.heap.size 0 (fun _ => none) :=
  ⟨.map [], World.ownsMap_made _ _ _ _, fun s => ⟨fun _ z => rfl, fun v h => by cases h⟩⟩
theorem MapW.lt {w : World} {B n : Nat} {m : ByteArray → Option Value} (h : MapW w B n m) : B < w.heap.size := by obtain ⟨D, h, _⟩ := h; exact h.lt
theorem MapW.kept {w w' : World} {B n : Nat} {m : ByteArray → Option Value} {row : Option Nat} (h : MapW w B n m) (hg : w.grownBy w' row) (hne : some B ≠ row) : MapW w' B n m := by
  obtain ⟨D, h, hm⟩ := h
  exact ⟨D, h.kept hg hne, hm⟩
theorem MapW.on {w w' : World} {B n : Nat} {m : ByteArray → Option Value} (h : MapW w B n m) (b : Below w.heap.size w w') : MapW w' B n m :=
  h.kept (row := none) ⟨b.os, b.tape, b.output, b.size, fun k hk _ => b.block k hk⟩ (by simp)
theorem SaysM.get {D : DataW Value} {m : ByteArray → Option Value} (h : SaysM D m) (s : ByteArray) (z : Value) : D.atKey (kl s) (.held z) = .held ((m s).getD z) := by
  cases e : m s with
  | none => exact (h s).1 e _
  | some v => exact (h s).2 v e _
theorem SaysM.has {D : DataW Value} {m : ByteArray → Option Value} (h : SaysM D m) (s : ByteArray) : Maps.has D (kl s) = (m s).isSome := by
  cases e : m s with
  | none => exact Maps.has_false_of_atKey ((h s).1 e)
  | some v => exact Maps.has_true_of_atKey ((h s).2 v e)

theorem MapW.look {w : World} {B n : Nat} {m : ByteArray → Option Value} (h : MapW w B n m) (s : ByteArray) (hs : s.size ≤ 1048576) :
    (Instr.lookup 73 (.map (some B)) (.string s) false).run Try.prog w = .ok ((m s).getD (.slice none 0 0)) w := by
  obtain ⟨D, h, hm⟩ := h
  obtain ⟨v, ps, hr, hv⟩ := h.lookup keyedS Try.underlying73 (zeroRow w) (zd := .held (.slice none 0 0)) (zp := []) rfl (keyS s hs)
  rw [hm.get s] at hv
  simp only [tokR, Option.some.injEq, Prod.mk.injEq, DataW.held.injEq] at hv
  rw [hr, hv.1]
theorem MapW.look_ok {w : World} {B n : Nat} {m : ByteArray → Option Value} (h : MapW w B n m) (s : ByteArray) (hs : s.size ≤ 1048576) :
    (Instr.lookup 73 (.map (some B)) (.string s) true).run Try.prog w = .ok (.tuple #[(m s).getD (.slice none 0 0), .bool (m s).isSome]) w := by
  obtain ⟨D, h, hm⟩ := h
  obtain ⟨v, ps, hr, hv⟩ := h.look_ok keyedS Try.underlying73 (zeroRow w) (zd := .held (.slice none 0 0)) (zp := []) rfl (keyS s hs)
  rw [hm.get s] at hv
  simp only [tokR, Option.some.injEq, Prod.mk.injEq, DataW.held.injEq] at hv
  rw [hr, hv.1, hm.has s]
theorem MapW.store {w : World} {B n : Nat} {m : ByteArray → Option Value} (h : MapW w B n m) (s : ByteArray) (hs : s.size ≤ 1048576) (hn : n ≤ 16777216) (v : Value) :
    ∃ w', (Instr.mapUpdate 73 (.map (some B)) (.string s) v).run Try.prog w = .ok () w' ∧ MapW w' B (n + 1) (fun z => if z = s then some v else m z) ∧ w.mapTurned w' B := by
  obtain ⟨D, h, hm⟩ := h
  obtain ⟨w', hr, h', ht⟩ := h.store keyedS Try.underlying73 (by unfold maxLen; omega) (keyS s hs) (val := v) (d := .held v) (ps := []) rfl
  refine ⟨w', hr, ⟨_, h', fun z => ?_⟩, ht⟩
  by_cases e : z = s
  · subst e
    refine ⟨fun h0 => by simp at h0, fun u hu y => ?_⟩
    simp only [if_true, Option.some.injEq] at hu
    rw [Maps.atKey_put_same h.isMap (keyedS.key (keyS z hs)), hu]
  · simp only [if_neg e]
    exact ⟨fun h0 y => by rw [Maps.atKey_put_other (fun k => e (kl_inj k))]; exact (hm z).1 h0 y, fun u hu y => by rw [Maps.atKey_put_other (fun k => e (kl_inj k))]; exact (hm z).2 u hu y⟩
theorem MapW.drop {w : World} {B n : Nat} {m : ByteArray → Option Value} (h : MapW w B n m) (s : ByteArray) (hs : s.size ≤ 1048576) (ty : TypeId) :
    ∃ w', (Builtin.delete_ #[73, 9] ty #[.map (some B), .string s]).run Try.prog w = .ok (.tuple #[]) w' ∧ MapW w' B n (fun z => if z = s then none else m z) ∧ w.mapTurned w' B := by
  obtain ⟨D, h, hm⟩ := h
  obtain ⟨w', hr, h', ht⟩ := h.drop keyedS Try.underlying73 (keyS s hs) ty
  refine ⟨w', hr, ⟨_, h', fun z => ?_⟩, ht⟩
  by_cases e : z = s
  · subst e
    refine ⟨fun _ y => Maps.atKey_del_same y, fun u hu => ?_⟩
    simp at hu
  · simp only [if_neg e]
    exact ⟨fun h0 y => by rw [Maps.atKey_del_other (fun k => e (kl_inj k))]; exact (hm z).1 h0 y, fun u hu y => by rw [Maps.atKey_del_other (fun k => e (kl_inj k))]; exact (hm z).2 u hu y⟩

end Go.Proofs.Ytkdbcplcpcdnbaa

namespace Go.Proofs.Ytkdbcplcpcdnbaa
open Go.RowKit
set_option maxRecDepth 100000

/-- An item with its place. -/
structure PIt where
  k : Int
  x : ItA
instance : Inhabited PIt := ⟨⟨0, default⟩⟩
def PIt.vals (z : PIt) : List Value := .int .i64 z.k :: z.x.vals
def flatP (l : List PIt) : List Value := l.flatMap PIt.vals
theorem flatP_cons (z : PIt) (r : List PIt) : flatP (z :: r) = z.vals ++ flatP r := by simp [flatP]
theorem flatP_append (a b : List PIt) : flatP (a ++ b) = flatP a ++ flatP b := by simp [flatP]
theorem PIt.vals_length (z : PIt) : z.vals.length = 5 := rfl
theorem flatP_length (l : List PIt) : (flatP l).length = l.length * 5 := by
  induction l with
  | nil => rfl
  | cons x r ih => rw [flatP_cons, List.length_append, ih, PIt.vals_length]; simp; omega
theorem flatP_at (l : List PIt) (i j : Nat) (hj : j < 5) (hi : i < l.length) : (flatP l)[i * 5 + j]? = (l.getD i default).vals[j]? := by
  induction l generalizing i with
  | nil => simp at hi
  | cons x r ih =>
    rw [flatP_cons]
    cases i with
    | zero => rw [List.getElem?_append_left (by rw [PIt.vals_length]; omega)]; simp
    | succ i =>
      rw [List.getElem?_append_right (by rw [PIt.vals_length]; omega), PIt.vals_length, show (i + 1) * 5 + j - 5 = i * 5 + j by omega, ih i (by simpa using hi)]
      simp
theorem flatP_one (l : List PIt) : ∀ v ∈ flatP l, v.oneCell' = true := by
  intro v hv
  obtain ⟨z, _, hz⟩ := List.mem_flatMap.1 hv
  simp only [PIt.vals, ItA.vals, List.mem_cons, List.not_mem_nil, or_false] at hz
  rcases hz with rfl | rfl | rfl | rfl | rfl <;> rfl

/-- What waits for a route. -/
def ofR (s : ByteArray) (L : List PIt) : List PIt := L.filter (fun z => decide (z.x.s = s))
theorem ofR_append (s : ByteArray) (a b : List PIt) : ofR s (a ++ b) = ofR s a ++ ofR s b := by simp [ofR]
theorem ofR_same (z : PIt) : ofR z.x.s [z] = [z] := by simp [ofR]
theorem ofR_other (s : ByteArray) (z : PIt) (h : z.x.s ≠ s) : ofR s [z] = [] := by simp [ofR, h]
theorem ofR_len (s : ByteArray) (L : List PIt) : (ofR s L).length ≤ L.length := List.length_filter_le _ _

/-- The map m, in block B, and its rows, each in a block of its own, none of them block S. -/
structure Rows13 (w : World) (lo S B n : Nat) (m : ByteArray → Option Value) (L : List PIt) : Prop where
  map : MapW w B n m
  loB : lo ≤ B
  noRow : ∀ s, ofR s L = [] → m s = none
  aRow : ∀ s, ofR s L ≠ [] → ∃ v, m s = some v ∧ w.ownsRow lo 102 5 v (ofR s L).length (flatP (ofR s L))
  apart : ∀ s s' v v', s ≠ s' → m s = some v → m s' = some v' → v.ownBlock ≠ v'.ownBlock
  off : ∀ s v, m s = some v → v.ownBlock ≠ some S
/-- A shelf at block S: what waits, in the order in which it came; the next place. -/
def Shelf (w : World) (lo S : Nat) (L : List PIt) (nx : Int) (N : Nat) : Prop :=
  ∃ B n m, Cells w S #[.map (some B), .int .i64 nx] ∧ lo ≤ S ∧ n ≤ N ∧ Rows13 w lo S B n m L

theorem MapW.block {w : World} {B n : Nat} {m : ByteArray → Option Value} (h : MapW w B n m) : ∃ es c, w.heap[B]? = some (.map es c) := by
  obtain ⟨D, ⟨es, c, h, _⟩, _⟩ := h
  exact ⟨es, c, h⟩
theorem row_not_map {w : World} {B n : Nat} {m : ByteArray → Option Value} (h : MapW w B n m) {lo e size k : Nat} {v : Value} {xs : List Value} (hr : w.ownsRow lo e size v k xs) : v.ownBlock ≠ some B := by
  obtain ⟨es, c, hb⟩ := h.block
  rcases hr.2 with ⟨rfl, _⟩ | ⟨g, cap, cur, rfl, _, hg, _⟩
  · simp [Value.ownBlock]
  · simp only [Value.ownBlock, ne_eq, Option.some.injEq]
    intro e
    rw [e, hb] at hg
    cases hg
theorem cells_not_map {w : World} {B n S : Nat} {m : ByteArray → Option Value} (h : MapW w B n m) {A : Array Value} (hc : Cells w S A) (hA : 0 < A.size) : B ≠ S := by
  obtain ⟨es, c, hb⟩ := h.block
  rintro rfl
  have := (hc.2 0).1
  rw [Array.getElem?_eq_getElem hA] at this
  simp [World.cell?, hb] at this
theorem Rows13.kept {w w' : World} {lo S B n : Nat} {m : ByteArray → Option Value} {L : List PIt} {row : Option Nat} (h : Rows13 w lo S B n m L) (hg : w.grownBy w' row) (hB : some B ≠ row) (hr : ∀ s v, m s = some v → v.ownBlock ≠ row) : Rows13 w' lo S B n m L :=
  ⟨h.map.kept hg hB, h.loB, h.noRow, fun s hs => by obtain ⟨v, hv, ho⟩ := h.aRow s hs; exact ⟨v, hv, ho.kept hg (.inr (hr s v hv))⟩, h.apart, h.off⟩
theorem Rows13.on {w w' : World} {lo S B n : Nat} {m : ByteArray → Option Value} {L : List PIt} (h : Rows13 w lo S B n m L) (b : Below w.heap.size w w') : Rows13 w' lo S B n m L :=
  ⟨h.map.on b, h.loB, h.noRow, fun s hs => by obtain ⟨v, hv, ho⟩ := h.aRow s hs; exact ⟨v, hv, owns_below ho b⟩, h.apart, h.off⟩
theorem Shelf.on {w w' : World} {lo S : Nat} {L : List PIt} {nx : Int} {N : Nat} (h : Shelf w lo S L nx N) (b : Below w.heap.size w w') : Shelf w' lo S L nx N := by
  obtain ⟨B, n, m, hc, h1, h2, h3⟩ := h
  exact ⟨B, n, m, hc.on b, h1, h2, h3.on b⟩
/-- Of a route there is a row just where the map has one. -/
theorem Rows13.row {w : World} {lo S B n : Nat} {m : ByteArray → Option Value} {L : List PIt} (h : Rows13 w lo S B n m L) (s : ByteArray) : w.ownsRow lo 102 5 ((m s).getD (.slice none 0 0)) (ofR s L).length (flatP (ofR s L)) := by
  by_cases e : ofR s L = []
  · rw [h.noRow s e, e]
    exact World.ownsRow_nil _ _ _ _
  · obtain ⟨v, hv, ho⟩ := h.aRow s e
    rw [hv]
    exact ho
theorem Rows13.has {w : World} {lo S B n : Nat} {m : ByteArray → Option Value} {L : List PIt} (h : Rows13 w lo S B n m L) (s : ByteArray) : (m s).isSome = decide (ofR s L ≠ []) := by
  by_cases e : ofR s L = []
  · rw [h.noRow s e, e]; rfl
  · obtain ⟨v, hv, _⟩ := h.aRow s e
    rw [hv, decide_eq_true e]; rfl
theorem Rows13.ne {w : World} {lo S B n : Nat} {m : ByteArray → Option Value} {L : List PIt} (h : Rows13 w lo S B n m L) {s : ByteArray} {v : Value} (hv : m s = Option.some v) : v.ownBlock ≠ Option.none := by
  have e : ofR s L ≠ [] := fun e => by rw [h.noRow s e] at hv; cases hv
  obtain ⟨v', hv', ho⟩ := h.aRow s e
  rw [hv] at hv'
  cases hv'
  rcases ho.2 with ⟨_, h0⟩ | ⟨g, cap, cur, rfl, _⟩
  · exact absurd (List.length_eq_zero_iff.1 h0) e
  · simp [Value.ownBlock]

/-- One more: its row told anew, by a slice of the old block or of a new one. -/
theorem Rows13.add {w w1 w2 : World} {lo S B n : Nat} {m : ByteArray → Option Value} {L : List PIt} {z : PIt} {v' : Value} (h : Rows13 w lo S B n m L) (hg : w.grownBy w1 ((m z.x.s).getD (.slice none 0 0)).ownBlock) (hS : S < w.heap.size)
    (hrow : w1.ownsRow lo 102 5 v' ((ofR z.x.s L).length + 1) (flatP (ofR z.x.s L) ++ z.vals)) (hloc : ((m z.x.s).getD (.slice none 0 0)).ownBlock = v'.ownBlock ∨ ∃ g, v'.ownBlock = Option.some g ∧ w.heap.size ≤ g)
    (hmap : MapW w2 B (n + 1) (fun y => if y = z.x.s then Option.some v' else m y)) (ht : w1.grownBy w2 (Option.some B)) : Rows13 w2 lo S B (n + 1) (fun y => if y = z.x.s then Option.some v' else m y) (L ++ [z]) := by
  have hB : Option.some B ≠ ((m z.x.s).getD (.slice none 0 0)).ownBlock := fun e => row_not_map h.map (h.row z.x.s) e.symm
  have hrows : ∀ s, s ≠ z.x.s → ofR s (L ++ [z]) = ofR s L := fun s hs => by rw [ofR_append, ofR_other s z (Ne.symm hs), List.append_nil]
  have hsame : ofR z.x.s (L ++ [z]) = ofR z.x.s L ++ [z] := by rw [ofR_append, ofR_same]
  have hB1 : w1.heap[B]? = w.heap[B]? := hg.block B h.map.lt hB
  have hv'B : v'.ownBlock ≠ Option.some B := fun e => by
    obtain ⟨es, c, hb⟩ := h.map.block
    rcases hrow.2 with ⟨rfl, h0⟩ | ⟨g, cap, cur, rfl, _, hgg, _⟩
    · omega
    · simp only [Value.ownBlock, Option.some.injEq] at e
      subst e
      rw [hB1, hb] at hgg
      cases hgg
  have hold : ∀ s v, s ≠ z.x.s → m s = Option.some v → v.ownBlock ≠ ((m z.x.s).getD (.slice none 0 0)).ownBlock := fun s v hs hv e => by
    cases hz : m z.x.s with
    | none => rw [hz] at e; exact h.ne hv e
    | some u => rw [hz] at e; exact h.apart s z.x.s v u hs hv hz e
  have hlt : ∀ s v k, m s = Option.some v → v.ownBlock = Option.some k → k < w.heap.size := fun s v k hv hk => by
    have hr := h.row s
    rw [hv] at hr
    exact (hr.lt k hk).2
  have hfar : ∀ s v, s ≠ z.x.s → m s = Option.some v → v.ownBlock ≠ v'.ownBlock := fun s v hs hv e => by
    rcases hloc with e2 | ⟨g, e2, hgw⟩
    · exact hold s v hs hv (e.trans e2.symm)
    · have := hlt s v g hv (e.trans e2); omega
  refine ⟨hmap, h.loB, fun s hs => ?_, fun s hs => ?_, fun s s' v u hss hv hu => ?_, fun s v hv => ?_⟩
  · by_cases e : s = z.x.s
    · subst e; rw [hsame] at hs; simp at hs
    · rw [hrows s e] at hs
      simp only [if_neg e]
      exact h.noRow s hs
  · by_cases e : s = z.x.s
    · subst e
      refine ⟨v', by simp, ?_⟩
      rw [hsame, flatP_append, List.length_append]
      have : flatP [z] = z.vals := by simp [flatP]
      rw [this]
      exact hrow.kept ht (.inr hv'B)
    · rw [hrows s e] at hs ⊢
      obtain ⟨v, hv, ho⟩ := h.aRow s hs
      refine ⟨v, by simp only [if_neg e]; exact hv, (ho.kept hg (.inr (hold s v e hv))).kept ht (.inr (row_not_map h.map ho))⟩
  · by_cases e : s = z.x.s
    · subst e
      simp only [if_true, Option.some.injEq] at hv
      subst hv
      simp only [if_neg (Ne.symm hss)] at hu
      exact fun k => hfar s' u (Ne.symm hss) hu k.symm
    · simp only [if_neg e] at hv
      by_cases e' : s' = z.x.s
      · subst e'
        simp only [if_true, Option.some.injEq] at hu
        subst hu
        exact hfar s v e hv
      · simp only [if_neg e'] at hu
        exact h.apart s s' v u hss hv hu
  · by_cases e : s = z.x.s
    · subst e
      simp only [if_true, Option.some.injEq] at hv
      subst hv
      rcases hloc with e2 | ⟨g, e2, hgw⟩
      · cases hz : m z.x.s with
        | none => rw [hz] at e2; rw [← e2]; simp [Value.ownBlock]
        | some u => rw [hz] at e2; rw [← e2]; exact h.off z.x.s u hz
      · rw [e2]
        intro k
        simp only [Option.some.injEq] at k
        omega
    · simp only [if_neg e] at hv
      exact h.off s v hv

end Go.Proofs.Ytkdbcplcpcdnbaa
