/-
  Plain facts on worlds and lists of ints for the proofs of this seat, as those of Plain on bytes: what a row of ints that the call made reads as, that it stays, what is stored into it and appended to it; and an append of bytes that lie somewhere. Conditions: none beyond each fact's own.
  The int's row of the program's table of types.
  What spec.Words and impl.Words answer.
  'append(out, x)' of one int, out a row that the call owns, as one step of a region that draws its order, in whatever world the int lies; it says besides that the row's old cells stay as they were. Conditions: each fact's own.
  What the specification's l3Table and l3More answer: the 64 numbers of the rounds; the 64 words of any 64 bytes; condition: they are bytes.
-/
import Derived.Test.YtdjdanpicbaieaaDoorPart01
import Derived.Test.YtdjdanpicbaieaaDoorPart02
import Derived.Laws.Cover3
import Derived.Deep.RegionHeld3
namespace Go.Proofs.YtdjdanpicbaieaaDoor
open Go.RowKit

/-- The bytes xs lie in a slice of n elements at p; of one that has none nothing is said. -/
def IntsIn (w : World) (p : Option Addr) (n : Nat) (xs : List Int) : Prop :=
  0 < n → ∃ b o, p = some ⟨b, o, none⟩ ∧ ∀ i, i < n → w.cell? ⟨b, o + i, none⟩ = some (.int .i64 (xs.getD i 0))

/-- What a row of bytes that the call owns reads as. -/
theorem owns_inI {w : World} {base e : Nat} {p : Option Addr} {n c : Nat} {xs : List Int} (h : w.ownsRow base e 1 (.slice p n c) n (xs.map (Value.int .i64))) : IntsIn w p n xs := by
  intro hn
  rcases h.2 with ⟨_, h0⟩ | ⟨g, cap, cur, hv, _, _⟩
  · omega
  · simp only [Value.slice.injEq] at hv
    obtain ⟨rfl, _, rfl⟩ := hv
    refine ⟨g, 0, rfl, fun i hi => ?_⟩
    have hl := h.1
    simp only [List.length_map, Nat.mul_one] at hl
    have := h.cellAt i (by omega)
    simp only [Nat.zero_add]
    rw [this]
    simp [List.getElem?_eq_getElem (show i < xs.length by omega), List.getD]

/-- What lies somewhere lies there behind a step that turned nothing old. -/
theorem in_belowI {w w' : World} {p : Option Addr} {n : Nat} {xs : List Int} (h : IntsIn w p n xs) (hb : Below w.heap.size w w') : IntsIn w' p n xs := by
  intro hn
  obtain ⟨b, o, rfl, hc⟩ := h hn
  refine ⟨b, o, rfl, fun i hi => ?_⟩
  have hlt : b < w.heap.size := World.block_lt_of_cell? w ⟨b, o + i, none⟩ (hc i hi)
  rw [hb.cell (p := ⟨b, o + i, none⟩) hlt]
  exact hc i hi

theorem owns_lenI {w : World} {base e : Nat} {v : Value} {n : Nat} {xs : List Int} (h : w.ownsRow base e 1 v n (xs.map (Value.int .i64))) : xs.length = n := by
  have := h.1; simpa using this

/-- One byte more of xs in the place of a nought. -/
theorem fill_stepI (xs : List Int) (n k : Nat) (u : Int) (hu : u = xs.getD k 0) (hk : k < n) (hx : xs.length = n) :
    ((xs.take k ++ List.replicate (n - k) 0).map (Value.int .i64)).set k (.int .i64 u) = (xs.take (k + 1) ++ List.replicate (n - (k + 1)) 0).map (Value.int .i64) := by
  subst hu
  simp only [List.getD_eq_getElem?_getD]
  apply List.ext_getElem
  · simp; omega
  · intro i h1 h2
    simp only [List.getElem_set, List.getElem_map]
    simp at h1 h2
    by_cases e : k = i
    · subst e
      simp [List.getElem_append, hx, hk]
      intro h; omega
    · simp only [e, if_false]
      by_cases hi : i < k
      · simp [List.getElem_append, hx]
        rw [dif_pos (by omega), dif_pos (by omega)]
      · simp [List.getElem_append, hx]
        rw [dif_neg (by omega), dif_neg (by omega)]

theorem fill_oldI (xs : List Int) (n k : Nat) (hk : k < n) (hx : xs.length = n) : ((xs.take k ++ List.replicate (n - k) 0).map (Value.int .i64))[k]? = some (.int .i64 0) := by
  rw [List.getElem?_eq_getElem (by simp; omega)]
  simp [List.getElem_append, hx]
  intro h; omega

theorem fill_startI (xs : List Int) (n : Nat) : (madeCells #[Value.int .i64 0] n).toList = (xs.take 0 ++ List.replicate (n - 0) 0).map (Value.int .i64) := by
  rw [toList_madeCells_one]
  simp

/-- What is laid by markIntS from k on. -/
def marksI (k : Int) (n : Nat) : List Int := (List.range n).map fun (i : Nat) => (k + (i : Int))

theorem marksI_length (k : Int) (n : Nat) : (marksI k n).length = n := by simp [marksI]

theorem marksI_getD (k : Int) (n i : Nat) (h : i < n) : (marksI k n).getD i 0 = (k + (i : Int)) := by simp [marksI, h]

theorem marksI_step (k : Int) (xs : List Int) (n j : Nat) (u : Int) (hu : u = (k + (j : Int))) (hj : j < n) (hx : xs.length = n) :
    ((marksI k j ++ xs.drop j).map (Value.int .i64)).set j (.int .i64 u) = (marksI k (j + 1) ++ xs.drop (j + 1)).map (Value.int .i64) := by
  subst hu
  have e : xs.drop j = xs[j]'(by omega) :: xs.drop (j + 1) := List.drop_eq_getElem_cons (by omega)
  have m : marksI k (j + 1) = marksI k j ++ [(k + (j : Int))] := by simp [marksI, List.range_succ]
  rw [e, m, List.map_append, List.map_cons, List.set_append_right _ _ (by simp [marksI_length])]
  simp [marksI_length]

theorem marksI_old (k : Int) (xs : List Int) (n j : Nat) (hj : j < n) (hx : xs.length = n) : ∃ u, ((marksI k j ++ xs.drop j).map (Value.int .i64))[j]? = some (.int .i64 u) := by
  refine ⟨(marksI k j ++ xs.drop j)[j]'(by simp [marksI_length]; omega), ?_⟩
  rw [List.getElem?_eq_getElem (by simp [marksI_length]; omega), List.getElem_map]

theorem marksI_end (k : Int) (xs : List Int) (n : Nat) (hx : xs.length = n) : marksI k n ++ xs.drop n = marksI k n := by
  rw [List.drop_of_length_le (by omega), List.append_nil]

/-- A row of bytes xs that the call made: v, of n elements; its block lies from lo on and ahead of hi. -/
def OwnI (e : Nat) (w : World) (lo hi : Nat) (v : Value) (n : Nat) (xs : List Int) : Prop := w.ownsRow lo e 1 v n (xs.map (Value.int .i64)) ∧ ∀ k, v.ownBlock = some k → k < hi

section
variable {e : Nat} {w w' a : World} {lo hi lo' hi' : Nat} {u v : Value} {n m : Nat} {xs ys : List Int}

theorem OwnI.of (h : w.ownsRow lo e 1 v n (xs.map (Value.int .i64))) : OwnI e w lo w.heap.size v n xs := ⟨h, fun k hk => (h.lt k hk).2⟩
theorem OwnI.on (h : OwnI e w lo hi v n xs) (hb : Below w.heap.size w w') : OwnI e w' lo hi v n xs := ⟨owns_below h.1 hb, h.2⟩
theorem OwnI.far (h : OwnI e w lo hi v n xs) (hg : w.grownBy w' u.ownBlock) (hu : OwnI e w lo' hi' u m ys) (hd : hi ≤ lo' ∨ hi' ≤ lo) : OwnI e w' lo hi v n xs := by
  refine ⟨h.1.kept hg ?_, h.2⟩
  rcases hv : v.ownBlock with _ | k
  · exact .inl rfl
  · right
    intro he
    have h1 := h.2 k hv
    have h2 := (h.1.lt k hv).1
    have h3 := hu.2 k he.symm
    have h4 := (hu.1.lt k he.symm).1
    omega
theorem OwnI.len (h : OwnI e w lo hi v n xs) : xs.length = n := owns_lenI h.1
theorem OwnI.ints {p : Option Addr} {c : Nat} (h : OwnI e w lo hi (.slice p n c) n xs) : IntsIn w p n xs := owns_inI h.1
theorem below_markI (h : Below a.heap.size a w) (hg : w.grownBy w' u.ownBlock) (hu : OwnI e w lo' hi' u m ys) (hlo : a.heap.size ≤ lo') : Below a.heap.size a w' :=
  h.grown hg h.size fun k hk => Nat.le_trans hlo (hu.1.lt k hk).1
end

section
variable {P : Program} {e : TypeId} {i : TypeInfo} {base n : Nat} {wr : World} {v : Value} {xs : List Int}

theorem pushs_fitI {n m : Nat} (hn : n ≤ 1099511627776) (hm : m ≤ 1099511627776) : n + m ≤ maxLen ∧ (n + m) * 8 ≤ 140737488355328 := by unfold maxLen; omega

/-- 'append(out, x, y, ..)' of some bytes, out a row that the call owns, as one step of a region that draws its order. -/
theorem step_pushsI {ops : Array Oper} {o : Oper} {a : Act} {K : Act → World → Prop} {Q : Exit → Act → World → Prop} {E : Prop} (hi : P.info? e = some i) (hz : i.zero = some (.int .i64 0)) (hsize : i.size = 1) (hby : i.bytes = 8)
    (s y : Operand) (t : TypeId) (ht : P.underlying t = some (.slice e)) (cs : Array Value) (ys : List Int) (hcs : cs.toList = ys.map (Value.int .i64)) (hm : 0 < ys.length) (hm' : ys.length ≤ 1099511627776)
    (hown : wr.ownsRow base e 1 v n (xs.map (Value.int .i64))) (hn : n ≤ 1099511627776) (hbase : base ≤ wr.heap.size)
    (hgd : o.guard = none) (ho : o.op = .call { callee := .builtin .append, args := #[s, y], argTypes := #[t, t] }) (hs : a.eval s = v) (hy : a.eval y = .slice (some ⟨wr.heap.size, 0, none⟩) ys.length ys.length)
    (h : ∀ g cap w', w'.ownsRow base e 1 (.slice (some ⟨g, 0, none⟩) (n + ys.length) cap) (n + ys.length) ((xs ++ ys).map (Value.int .i64)) → Below base wr w' → K (a.put o.dst (.slice (some ⟨g, 0, none⟩) (n + ys.length) cap)) w') :
    if Region.wanted o (yielded ops a.tmps) = true then Oper.wp P o a (wr.alloc (.cells cs e)).drew K Q else E := by
  refine step_append_lies _ hgd s y t ho base e i (.int .i64 0) 1 8 ht hi hz hsize hby rfl (by decide) v n (xs.map (Value.int .i64)) hs (hown.alloc _).drew ⟨wr.heap.size, 0, none⟩ ys.length ys.length (ys.map (Value.int .i64)) hy (by simp) ?_ (ints_oneCell _ _) hm (pushs_fitI hn hm').1 (pushs_fitI hn hm').2 (by simp; omega) _ rfl ?_
  · rw [← hcs]
    exact World.news_of_block (cs := cs) (heap_alloc_new wr _)
  · intro g cap w' h1 h2 _ _
    refine h g cap w' (by simpa using h1) (((Below.refl _ _).alloc hbase _).drew.grown h2 (by simp; omega) fun k hk => (hown.lt k hk).1)

/-- The same in a plain region. -/
theorem list_pushsI {ops : Array Oper} {rest : List Oper} {o : Oper} {a : Act} {Q : Exit → Act → World → Prop} (hi : P.info? e = some i) (hz : i.zero = some (.int .i64 0)) (hsize : i.size = 1) (hby : i.bytes = 8)
    (s y : Operand) (t : TypeId) (ht : P.underlying t = some (.slice e)) (cs : Array Value) (ys : List Int) (hcs : cs.toList = ys.map (Value.int .i64)) (hm : 0 < ys.length) (hm' : ys.length ≤ 1099511627776)
    (hown : wr.ownsRow base e 1 v n (xs.map (Value.int .i64))) (hn : n ≤ 1099511627776) (hbase : base ≤ wr.heap.size)
    (hgd : o.guard = none) (ho : o.op = .call { callee := .builtin .append, args := #[s, y], argTypes := #[t, t] }) (hs : a.eval s = v) (hy : a.eval y = .slice (some ⟨wr.heap.size, 0, none⟩) ys.length ys.length)
    (h : ∀ g cap w', w'.ownsRow base e 1 (.slice (some ⟨g, 0, none⟩) (n + ys.length) cap) (n + ys.length) ((xs ++ ys).map (Value.int .i64)) → Below base wr w' → wpList P ops Q rest (a.put o.dst (.slice (some ⟨g, 0, none⟩) (n + ys.length) cap)) w') :
    wpList P ops Q (o :: rest) a (wr.alloc (.cells cs e)) := by
  refine wpList_append_lies _ hgd s y t ho base e i (.int .i64 0) 1 8 ht hi hz hsize hby rfl (by decide) v n (xs.map (Value.int .i64)) hs (hown.alloc _) ⟨wr.heap.size, 0, none⟩ ys.length ys.length (ys.map (Value.int .i64)) hy (by simp) ?_ (ints_oneCell _ _) hm (pushs_fitI hn hm').1 (pushs_fitI hn hm').2 (by simp; omega) _ rfl ?_
  · rw [← hcs]
    exact World.news_of_block (cs := cs) (heap_alloc_new wr _)
  · intro g cap w' h1 h2 _ _
    refine h g cap w' (by simpa using h1) (((Below.refl _ _).alloc hbase _).grown h2 (by simp; omega) fun k hk => (hown.lt k hk).1)

/-- One byte in a plain region, and every other block stays as it was. -/
theorem list_pushKI {ops : Array Oper} {rest : List Oper} {o : Oper} {a : Act} {Q : Exit → Act → World → Prop} (hi : P.info? e = some i) (hz : i.zero = some (.int .i64 0)) (hsize : i.size = 1) (hby : i.bytes = 8)
    (s y : Operand) (t : TypeId) (ht : P.underlying t = some (.slice e)) (x : Int) (hown : wr.ownsRow base e 1 v n (xs.map (Value.int .i64))) (hn : n ≤ 1099511627776) (hbase : base ≤ wr.heap.size)
    (hgd : o.guard = none) (ho : o.op = .call { callee := .builtin .append, args := #[s, y], argTypes := #[t, t] }) (hs : a.eval s = v) (hy : a.eval y = .slice (some ⟨wr.heap.size, 0, none⟩) 1 1)
    (h : ∀ g cap w', w'.ownsRow base e 1 (.slice (some ⟨g, 0, none⟩) (n + 1) cap) (n + 1) ((xs ++ [x]).map (Value.int .i64)) → Below base wr w' → (∀ k, k < wr.heap.size → some k ≠ v.ownBlock → w'.heap[k]? = wr.heap[k]?) → wpList P ops Q rest (a.put o.dst (.slice (some ⟨g, 0, none⟩) (n + 1) cap)) w') :
    wpList P ops Q (o :: rest) a (wr.alloc (.cells #[.int .i64 x] e)) := by
  refine wpList_append_lies _ hgd s y t ho base e i (.int .i64 0) 1 8 ht hi hz hsize hby rfl (by decide) v n (xs.map (Value.int .i64)) hs (hown.alloc _) ⟨wr.heap.size, 0, none⟩ 1 1 [.int .i64 x] hy rfl ?_ (fun u hu => by simp at hu; subst hu; rfl) (by decide) (pushs_fitI hn (by decide)).1 (pushs_fitI hn (by decide)).2 (by simp; omega) _ rfl ?_
  · exact World.news_of_block (cs := #[.int .i64 x]) (heap_alloc_new wr _)
  · intro g cap w' h1 h2 _ _
    refine h g cap w' (by simpa using h1) (((Below.refl _ _).alloc hbase _).grown h2 (by simp; omega) fun k hk => (hown.lt k hk).1) fun k hk hne => ?_
    rw [h2.block k (by simp; omega) hne]
    exact Below.heap_alloc _ _ _ hk

/-- One byte. -/
theorem step_pushI {ops : Array Oper} {o : Oper} {a : Act} {K : Act → World → Prop} {Q : Exit → Act → World → Prop} {E : Prop} (hi : P.info? e = some i) (hz : i.zero = some (.int .i64 0)) (hsize : i.size = 1) (hby : i.bytes = 8)
    (s y : Operand) (t : TypeId) (ht : P.underlying t = some (.slice e)) (x : Int) (hown : wr.ownsRow base e 1 v n (xs.map (Value.int .i64))) (hn : n ≤ 1099511627776) (hbase : base ≤ wr.heap.size)
    (hgd : o.guard = none) (ho : o.op = .call { callee := .builtin .append, args := #[s, y], argTypes := #[t, t] }) (hs : a.eval s = v) (hy : a.eval y = .slice (some ⟨wr.heap.size, 0, none⟩) 1 1)
    (h : ∀ g cap w', w'.ownsRow base e 1 (.slice (some ⟨g, 0, none⟩) (n + 1) cap) (n + 1) ((xs ++ [x]).map (Value.int .i64)) → Below base wr w' → K (a.put o.dst (.slice (some ⟨g, 0, none⟩) (n + 1) cap)) w') :
    if Region.wanted o (yielded ops a.tmps) = true then Oper.wp P o a (wr.alloc (.cells #[.int .i64 x] e)).drew K Q else E :=
  step_pushsI hi hz hsize hby s y t ht #[.int .i64 x] [x] rfl (by simp) (by simp) hown hn hbase hgd ho hs hy h

theorem list_pushI {ops : Array Oper} {rest : List Oper} {o : Oper} {a : Act} {Q : Exit → Act → World → Prop} (hi : P.info? e = some i) (hz : i.zero = some (.int .i64 0)) (hsize : i.size = 1) (hby : i.bytes = 8)
    (s y : Operand) (t : TypeId) (ht : P.underlying t = some (.slice e)) (x : Int) (hown : wr.ownsRow base e 1 v n (xs.map (Value.int .i64))) (hn : n ≤ 1099511627776) (hbase : base ≤ wr.heap.size)
    (hgd : o.guard = none) (ho : o.op = .call { callee := .builtin .append, args := #[s, y], argTypes := #[t, t] }) (hs : a.eval s = v) (hy : a.eval y = .slice (some ⟨wr.heap.size, 0, none⟩) 1 1)
    (h : ∀ g cap w', w'.ownsRow base e 1 (.slice (some ⟨g, 0, none⟩) (n + 1) cap) (n + 1) ((xs ++ [x]).map (Value.int .i64)) → Below base wr w' → wpList P ops Q rest (a.put o.dst (.slice (some ⟨g, 0, none⟩) (n + 1) cap)) w') :
    wpList P ops Q (o :: rest) a (wr.alloc (.cells #[.int .i64 x] e)) :=
  list_pushsI hi hz hsize hby s y t ht #[.int .i64 x] [x] rfl (by simp) (by simp) hown hn hbase hgd ho hs hy h
end


section
variable {e e' : Nat} {w w' a : World} {lo hi lo' hi' : Nat} {u v : Value} {n m : Nat} {xs ys : List Int}
/-- A row of bytes stays where ints that lie apart are marked. -/
theorem Own.farI (h : Own e w lo hi v n xs) (hg : w.grownBy w' u.ownBlock) (hu : OwnI e' w lo' hi' u m ys) (hd : hi ≤ lo' ∨ hi' ≤ lo) : Own e w' lo hi v n xs := by
  refine ⟨h.1.kept hg ?_, h.2⟩
  rcases hv : v.ownBlock with _ | k
  · exact .inl rfl
  · right
    intro he
    have h1 := h.2 k hv
    have h2 := (h.1.lt k hv).1
    have h3 := hu.2 k he.symm
    have h4 := (hu.1.lt k he.symm).1
    omega
/-- A row of ints stays where bytes that lie apart are marked. -/
theorem OwnI.farB (h : OwnI e w lo hi v n xs) (hg : w.grownBy w' u.ownBlock) (hu : Own e' w lo' hi' u m ys) (hd : hi ≤ lo' ∨ hi' ≤ lo) : OwnI e w' lo hi v n xs := by
  refine ⟨h.1.kept hg ?_, h.2⟩
  rcases hv : v.ownBlock with _ | k
  · exact .inl rfl
  · right
    intro he
    have h1 := h.2 k hv
    have h2 := (h.1.lt k hv).1
    have h3 := hu.2 k he.symm
    have h4 := (hu.1.lt k he.symm).1
    omega
end

theorem Own.cap {e : Nat} {w : World} {lo hi : Nat} {p : Option Addr} {n c : Nat} {xs : List Int} (h : Own e w lo hi (.slice p n c) n xs) : n ≤ c := by
  rcases h.1.2 with ⟨hv, hn⟩ | ⟨g, cap, cur, hv, _, _, hc, _⟩
  · omega
  · simp only [Value.slice.injEq] at hv
    omega

/-- WHAT THE WALK IS TOLD OF A SLICE OF INTS THAT CAME IN. -/
theorem row_inI {w : World} {a : Option Addr} {len cap : Nat} {zs : List Int}
    (h : (a = none ∧ len = 0 ∧ cap = 0 ∧ zs = []) ∨ ∃ x, a = some x ∧ len ≤ cap ∧ cap ≤ maxLen ∧ zs.length = cap ∧ (∀ i, i < zs.length → w.cell? (x.add i) = some (.int .i64 (zs.getD i 0))) ∧ ∀ n ∈ zs, (Lit.int .i64 n).wf = true) :
    (zs.take len).length = len ∧ IntsIn w a len (zs.take len) ∧ ∀ x ∈ zs.take len, -9223372036854775808 ≤ x ∧ x ≤ 9223372036854775807 := by
  rcases h with ⟨rfl, rfl, rfl, rfl⟩ | ⟨x, rfl, hl, hm, hz, hcell, hwz⟩
  · exact ⟨rfl, fun h => absurd h (Nat.lt_irrefl 0), fun x hx => by simp at hx⟩
  · refine ⟨by simp; omega, fun hn => ?_, fun y hy => ?_⟩
    · obtain ⟨b, off, spot⟩ := x
      have hc := hcell 0 (by omega)
      have hspot : spot = none := by simpa [Addr.add] using World.cell?_spot hc
      subst hspot
      refine ⟨b, off, rfl, fun i hi => ?_⟩
      have := hcell i (by omega)
      rw [Addr.add_lit] at this
      rw [this]
      simp [hi]
    · have := bounds_i64 (hwz y (List.mem_of_mem_take hy))
      omega

section
variable {P : Program} {e : TypeId} {i : TypeInfo} {base n m c : Nat} {wr : World} {v : Value} {p : Option Addr} {xs ys : List Int}
theorem news_of_in {wr : World} {b o m : Nat} {ys : List Int} (hl : ys.length = m) (hc : ∀ i, i < m → wr.cell? ⟨b, o + i, none⟩ = some (.int .u8 (ys.getD i 0))) : ∀ j u, (ys.map (Value.int .u8))[j]? = some u → wr.cell? ((⟨b, o, none⟩ : Addr).add j) = some u := by
  intro j u hj
  have hjl : j < ys.length := by
    rcases Nat.lt_or_ge j ys.length with h | h
    · exact h
    · simp [List.getElem?_eq_none (show (ys.map (Value.int .u8)).length ≤ j by simpa using h)] at hj
  have hplain : (⟨b, o, none⟩ : Addr).add j = ⟨b, o + j, none⟩ := by unfold Addr.add; split <;> simp_all
  rw [hplain, hc j (by omega)]
  simpa [List.getD, List.getElem?_eq_getElem hjl] using hj

/-- 'append(out, b...)' in a plain region: out a row that the call owns, b bytes that lie somewhere, at least one. -/
theorem list_spread {ops : Array Oper} {rest : List Oper} {o : Oper} {a : Act} {Q : Exit → Act → World → Prop} (hi : P.info? e = some i) (hz : i.zero = some (.int .u8 0)) (hsize : i.size = 1) (hby : i.bytes = 1)
    (s y : Operand) (t : TypeId) (ht : P.underlying t = some (.slice e)) (hown : wr.ownsRow base e 1 v n (xs.map (Value.int .u8))) (hin : BytesIn wr p m ys) (hl : ys.length = m) (hm : 0 < m) (hm' : m ≤ 1099511627776)
    (hn : n ≤ 1099511627776) (hbase : base ≤ wr.heap.size)
    (hgd : o.guard = none) (ho : o.op = .call { callee := .builtin .append, args := #[s, y], argTypes := #[t, t] }) (hs : a.eval s = v) (hy : a.eval y = .slice p m c)
    (h : ∀ g cap w', w'.ownsRow base e 1 (.slice (some ⟨g, 0, none⟩) (n + m) cap) (n + m) ((xs ++ ys).map (Value.int .u8)) → wr.grownBy w' v.ownBlock → Below base wr w' → wpList P ops Q rest (a.put o.dst (.slice (some ⟨g, 0, none⟩) (n + m) cap)) w') :
    wpList P ops Q (o :: rest) a wr := by
  obtain ⟨b, of, rfl, hc⟩ := hin hm
  refine wpList_append_lies _ hgd s y t ho base e i (.int .u8 0) 1 1 ht hi hz hsize hby rfl (by decide) v n (xs.map (Value.int .u8)) hs hown ⟨b, of, none⟩ m c (ys.map (Value.int .u8)) hy (by simp [hl]) (news_of_in hl hc) (ints_oneCell _ _) hm (pushs_fit hn hm').1 (pushs_fit hn hm').2 hbase _ rfl ?_
  intro g cap w' h1 h2 _ _
  exact h g cap w' (by simpa using h1) h2 ((Below.refl _ _).grown h2 hbase fun k hk => (hown.lt k hk).1)

theorem step_spread {ops : Array Oper} {o : Oper} {a : Act} {K : Act → World → Prop} {Q : Exit → Act → World → Prop} {E : Prop} (hi : P.info? e = some i) (hz : i.zero = some (.int .u8 0)) (hsize : i.size = 1) (hby : i.bytes = 1)
    (s y : Operand) (t : TypeId) (ht : P.underlying t = some (.slice e)) (hown : wr.ownsRow base e 1 v n (xs.map (Value.int .u8))) (hin : BytesIn wr p m ys) (hl : ys.length = m) (hm : 0 < m) (hm' : m ≤ 1099511627776)
    (hn : n ≤ 1099511627776) (hbase : base ≤ wr.heap.size)
    (hgd : o.guard = none) (ho : o.op = .call { callee := .builtin .append, args := #[s, y], argTypes := #[t, t] }) (hs : a.eval s = v) (hy : a.eval y = .slice p m c)
    (h : ∀ g cap w', w'.ownsRow base e 1 (.slice (some ⟨g, 0, none⟩) (n + m) cap) (n + m) ((xs ++ ys).map (Value.int .u8)) → wr.grownBy w' v.ownBlock → Below base wr w' → K (a.put o.dst (.slice (some ⟨g, 0, none⟩) (n + m) cap)) w') :
    if Region.wanted o (yielded ops a.tmps) = true then Oper.wp P o a wr K Q else E := by
  obtain ⟨b, of, rfl, hc⟩ := hin hm
  refine step_append_lies _ hgd s y t ho base e i (.int .u8 0) 1 1 ht hi hz hsize hby rfl (by decide) v n (xs.map (Value.int .u8)) hs hown ⟨b, of, none⟩ m c (ys.map (Value.int .u8)) hy (by simp [hl]) (news_of_in hl hc) (ints_oneCell _ _) hm (pushs_fit hn hm').1 (pushs_fit hn hm').2 hbase _ rfl ?_
  intro g cap w' h1 h2 _ _
  exact h g cap w' (by simpa using h1) h2 ((Below.refl _ _).grown h2 hbase fun k hk => (hown.lt k hk).1)
end

end Go.Proofs.YtdjdanpicbaieaaDoor

namespace Go.Proofs.YtdjdanpicbaieaaDoor
open Go.RowKit

theorem infoInt : (Tryd.prog.info? 3).map (fun i => (i.zero, i.size, i.bytes)) = some (some (.int .i64 0), 1, 8) := by kernel_rfl

end Go.Proofs.YtdjdanpicbaieaaDoor

namespace Go.Proofs.YtdjdanpicbaieaaDoor
open Go.RowKit
set_option maxRecDepth 100000

/-- The i-th four of bytes as a number. -/
def wordAt (great : Bool) (xs : List Int) (i : Nat) : Int :=
  let x (j : Nat) := (xs.getD (4 * i + j) 0).toNat
  if great = true then (four (x 0) (x 1) (x 2) (x 3) : Nat) else (four (x 3) (x 2) (x 1) (x 0) : Nat)
def wordsL (great : Bool) (xs : List Int) (k : Nat) : List Int := (List.range k).map (wordAt great xs)
theorem wordsL_length (great : Bool) (xs : List Int) (k : Nat) : (wordsL great xs k).length = k := by simp [wordsL]
theorem wordsL_step (great : Bool) (xs : List Int) (k : Nat) : wordsL great xs k ++ [wordAt great xs k] = wordsL great xs (k + 1) := by simp [wordsL, List.range_succ]

theorem readWord_any (great : Bool) (w : World) (x0 x1 x2 x3 : Int) (h0 : 0 ≤ x0 ∧ x0 < 256) (h1 : 0 ≤ x1 ∧ x1 < 256) (h2 : 0 ≤ x2 ∧ x2 < 256) (h3 : 0 ≤ x3 ∧ x3 < 256) :
    Calls Tryd.prog 128 #[.agg #[.int .u8 x0, .int .u8 x1, .int .u8 x2, .int .u8 x3], .bool great] w fun e w' =>
      e = .returned (.int .i64 (if great = true then (four x0.toNat x1.toNat x2.toNat x3.toNat : Nat) else (four x3.toNat x2.toNat x1.toNat x0.toNat : Nat))) ∧ Below w.heap.size w w' := by
  obtain ⟨y0, rfl⟩ : ∃ y : Nat, x0 = y := ⟨x0.toNat, by omega⟩
  obtain ⟨y1, rfl⟩ : ∃ y : Nat, x1 = y := ⟨x1.toNat, by omega⟩
  obtain ⟨y2, rfl⟩ : ∃ y : Nat, x2 = y := ⟨x2.toNat, by omega⟩
  obtain ⟨y3, rfl⟩ : ∃ y : Nat, x3 = y := ⟨x3.toNat, by omega⟩
  cases great
  · simpa using readLittle_any w y0 y1 y2 y3 (by omega) (by omega) (by omega) (by omega)
  · simpa using readGreat_any w y0 y1 y2 y3 (by omega) (by omega) (by omega) (by omega)

set_option maxHeartbeats 2000000 in
theorem implWords_any (p : Option Addr) (n c : Nat) (great : Bool) (xs : List Int) (w : World) (hn : n ≤ 1099511627776) (hc : n ≤ c) (hx : xs.length = n) (h : BytesIn w p n xs) (hb : ∀ x ∈ xs, 0 ≤ x ∧ x < 256) :
    Calls Tryd.prog 118 #[.slice p n c, .bool great] w fun e w' => ∃ p' c', e = .returned (.slice p' (n / 4) c') ∧ OwnI 3 w' w.heap.size w'.heap.size (.slice p' (n / 4) c') (n / 4) (wordsL great xs (n / 4)) ∧ Below w.heap.size w w' := by
  obtain ⟨i0, hi, hz0, hz1, hz2⟩ := info_parts infoInt
  have hq : wrap64 ((n : Int) / 4) = ((n / 4 : Nat) : Int) := by unfold wrap64; omega
  go_enter Tryd.func118, Tryd.ntmps118
  go_wp2_with (at_make; refine wpList_make_own _ rfl _ _ 88 rfl w.heap.size 3 i0 (.int .i64 0) 1 Tryd.underlying88 hi hz0 hz1 _ _ _ (n / 4) rfl rfl (by first | rfl | exact hq) (by rw [hz2]; omega) (by unfold maxLen; omega) (Nat.le_refl _) ?_)
  intro w1 hown hgrow
  have hbel : Below w.heap.size w w1 := (Below.refl _ _).grown hgrow (Nat.le_refl _) (fun _ h => by cases h)
  clear hgrow hq
  go_wp2
  go_loopw [0, 5] (fun s v wr => ∃ (k : Nat) (q : Option Addr) (cc : Nat), 4 * k ≤ n ∧ s = .slice q (n - 4 * k) cc ∧ n - 4 * k ≤ cc ∧ BytesIn w q (n - 4 * k) (xs.drop (4 * k)) ∧ wr.ownsRow w.heap.size 3 1 v k ((wordsL great xs k).map (Value.int .i64)) ∧ Below w.heap.size w wr)
    (fun s _ _ => match s with | .slice _ m _ => m | _ => 0)
  case atStart => exact ⟨0, p, c, by omega, rfl, by omega, by simpa using h, by simpa [wordsL] using hown, hbel⟩
  case round =>
    clear hown hbel
    obtain ⟨k, q, cc, hk, rfl, hcc, hin, hown, hbel⟩ := hrel
    by_cases hlt : 4 ≤ n - 4 * k
    · obtain ⟨b, o, rfl, hcell⟩ := hin (by omega)
      have hsz := hbel.size
      have cell : ∀ j, j < 4 → wr.cell? ⟨b, o + j, none⟩ = some (.int .u8 (xs.getD (4 * k + j) 0)) := by
        intro j hj
        rw [hbel.cell (p := ⟨b, o + j, none⟩) (World.block_lt_of_cell? w ⟨b, o + j, none⟩ (hcell j (by omega))), hcell j (by omega)]
        simp [List.getD]
      have byte : ∀ j, j < 4 → 0 ≤ xs.getD (4 * k + j) 0 ∧ xs.getD (4 * k + j) 0 < 256 := by
        intro j hj
        refine hb _ ?_
        simp [List.getElem?_eq_getElem (show 4 * k + j < xs.length by omega)]
      have c0 := cell 0 (by omega)
      have c1 := cell 1 (by omega)
      have c2 := cell 2 (by omega)
      have c3 := cell 3 (by omega)
      have b0 := byte 0 (by omega)
      have b1 := byte 1 (by omega)
      have b2 := byte 2 (by omega)
      have b3 := byte 3 (by omega)
      have HW : Hid ((if great = true then ((four (xs.getD (4 * k + 0) 0).toNat (xs.getD (4 * k + 1) 0).toNat (xs.getD (4 * k + 2) 0).toNat (xs.getD (4 * k + 3) 0).toNat : Nat) : Int) else (four (xs.getD (4 * k + 3) 0).toNat (xs.getD (4 * k + 2) 0).toNat (xs.getD (4 * k + 1) 0).toNat (xs.getD (4 * k + 0) 0).toNat : Nat)) = wordAt great xs k) := rfl
      generalize xs.getD (4 * k + 0) 0 = y0 at c0 b0 HW
      generalize xs.getD (4 * k + 1) 0 = y1 at c1 b1 HW
      generalize xs.getD (4 * k + 2) 0 = y2 at c2 b2 HW
      generalize xs.getD (4 * k + 3) 0 = y3 at c3 b3 HW
      have hnext : Hid (∀ q, (0 < n - 4 * (k + 1) → q = some ⟨b, o + 4, none⟩) → BytesIn w q (n - 4 * (k + 1)) (xs.drop (4 * (k + 1)))) := by
        intro q hq hp
        refine ⟨b, o + 4, hq hp, fun i hi => ?_⟩
        rw [show o + 4 + i = o + (4 + i) by omega, hcell (4 + i) (by omega)]
        simp [List.getD]
        rw [show 4 * k + (4 + i) = 4 * (k + 1) + i by omega]
      clear cell byte hcell hin
      obtain ⟨m, hm⟩ : ∃ m, n - 4 * k = m := ⟨_, rfl⟩
      rw [hm] at hlt hcc ⊢
      simp only [Nat.add_zero] at c0
      have hat : ∀ w, (Instr.arrayAt 132 (.slice (some ⟨b, o, none⟩) m cc)).run Tryd.prog w = .ok (.pointer (some ⟨b, o, none⟩)) w := fun w => run_arrayAt w 132 _ 4 _ m cc Tryd.underlying132 hlt
      go_wp2_with (fail)
      refine (readWord_any great _ y0 y1 y2 y3 b0 b1 b2 b3).mono ?_
      rintro e w2 ⟨rfl, hb2⟩
      rw [HW.out]
      have HN : Hid (wordsL great xs k ++ [wordAt great xs k] = wordsL great xs (k + 1)) := wordsL_step great xs k
      clear HW c0 c1 c2 c3 b0 b1 b2 b3
      generalize wordAt great xs k = u at HN ⊢
      replace hown := owns_below hown hb2
      replace hbel := below_on hbel hb2
      clear hb2 hsz
      have hsz := hbel.size
      go_wp2_with (at_builtin; refine list_pushI hi hz0 hz1 hz2 (.tmp 15) (.tmp 21) 88 Tryd.underlying88 _ hown (by omega) hsz (by rfl) (by rfl) (by rfl) (by rfl) ?_; intro g cap w1 ho1 hb1; rw [HN.out] at ho1)
      go_roundw
      case rel => exact ⟨k + 1, _, _, by omega, by rw [show n - 4 * (k + 1) = m - 4 by omega], by omega, hnext.out _ (fun hp => if_neg (by omega)), ho1, hbel.trans hb1⟩
      case measure => show m - 4 < m; omega
    · have hkn : n / 4 = k := by omega
      rw [hkn]
      obtain ⟨p', c', hv⟩ := owns_form hown
      subst hv
      obtain ⟨m, hm⟩ : ∃ m, n - 4 * k = m := ⟨_, rfl⟩
      rw [hm] at hlt hcc ⊢
      clear hin
      go_wp2
      go_ret
      rw [hkn]
      exact ⟨_, _, rfl, .of hown, hbel⟩

theorem or_four (x0 x1 x2 x3 : Nat) (h0 : x0 < 256) (h1 : x1 < 256) (h2 : x2 < 256) (h3 : x3 < 256) :
    bits .or .i64 (bits .or .i64 (bits .or .i64 ((x0 : Int) * 16777216) ((x1 : Int) * 65536)) ((x2 : Int) * 256)) (x3 : Int) = ((four x0 x1 x2 x3 : Nat) : Int) := by
  have a1 : ((x0 : Int) * 16777216) = ((2 ^ 24 * x0 : Nat) : Int) := by omega
  have a2 : ((x1 : Int) * 65536) = ((2 ^ 16 * x1 : Nat) : Int) := by omega
  have a3 : ((x2 : Int) * 256) = ((2 ^ 8 * x2 : Nat) : Int) := by omega
  rw [a1, a2, a3, i64_or _ _ (by omega) (by omega), ← Nat.two_pow_add_eq_or_of_lt (show 2 ^ 16 * x1 < 2 ^ 24 by omega), i64_or _ _ (by omega) (by omega)]
  rw [show 2 ^ 24 * x0 + 2 ^ 16 * x1 = 2 ^ 16 * (2 ^ 8 * x0 + x1) by omega, ← Nat.two_pow_add_eq_or_of_lt (show 2 ^ 8 * x2 < 2 ^ 16 by omega), i64_or _ _ (by omega) (by omega)]
  rw [show 2 ^ 16 * (2 ^ 8 * x0 + x1) + 2 ^ 8 * x2 = 2 ^ 8 * (2 ^ 8 * (2 ^ 8 * x0 + x1) + x2) by omega, ← Nat.two_pow_add_eq_or_of_lt (show x3 < 2 ^ 8 by omega)]
  unfold four
  omega

theorem or_fourW (x0 x1 x2 x3 : Nat) (h0 : x0 < 256) (h1 : x1 < 256) (h2 : x2 < 256) (h3 : x3 < 256) :
    bits .or .i64 (bits .or .i64 (bits .or .i64 (IntKind.i64.wrap (IntKind.i64.wrap (x0 : Int) * 16777216)) (IntKind.i64.wrap (IntKind.i64.wrap (x1 : Int) * 65536))) (IntKind.i64.wrap (IntKind.i64.wrap (x2 : Int) * 256))) (IntKind.i64.wrap (x3 : Int)) = ((four x0 x1 x2 x3 : Nat) : Int) := by
  have e : ∀ z : Int, 0 ≤ z → z < 9223372036854775808 → IntKind.i64.wrap z = z := fun z _ _ => by rw [IntKind.wrap_i64]; omega
  rw [e (x0 : Int) (by omega) (by omega), e (x1 : Int) (by omega) (by omega), e (x2 : Int) (by omega) (by omega), e (x3 : Int) (by omega) (by omega), e _ (by omega) (by omega), e _ (by omega) (by omega), e _ (by omega) (by omega)]
  exact or_four x0 x1 x2 x3 h0 h1 h2 h3

set_option maxHeartbeats 4000000 in
theorem specWords_any (p : Option Addr) (n c : Nat) (great : Bool) (xs : List Int) (w : World) (hn : n ≤ 1099511627776) (hx : xs.length = n) (h : BytesIn w p n xs) (hb : ∀ x ∈ xs, 0 ≤ x ∧ x < 256) :
    Calls Tryd.prog 116 #[.slice p n c, .bool great] w fun e w' => ∃ p' c', e = .returned (.slice p' (n / 4) c') ∧ OwnI 3 w' w.heap.size w'.heap.size (.slice p' (n / 4) c') (n / 4) (wordsL great xs (n / 4)) ∧ Below w.heap.size w w' := by
  obtain ⟨i0, hi, hz0, hz1, hz2⟩ := info_parts infoInt
  go_enter Tryd.func116, Tryd.ntmps116
  go_wp2
  go_loopw [5, 6] (fun v i wr => ∃ k : Nat, 4 * k ≤ n ∧ i = .int .i64 ((4 * k : Nat) : Int) ∧ wr.ownsRow w.heap.size 3 1 v k ((wordsL great xs k).map (Value.int .i64)) ∧ Below w.heap.size w wr)
    (fun _ i _ => n + 4 - (intOf i).toNat)
  case atStart => exact ⟨0, by omega, rfl, World.ownsRow_made w #[] 0 (Nat.le_refl _) (by unfold maxLen; omega) rfl, (Below.refl _ _).alloc (Nat.le_refl _) _⟩
  case round =>
    obtain ⟨k, hk, rfl, hown, hbel⟩ := hrel
    have hsz := hbel.size
    by_cases hlt : 4 * k + 3 < n
    · obtain ⟨b, o, rfl, hcell⟩ := h (by omega)
      have cell : ∀ j, j < 4 → ∃ z : Nat, z < 256 ∧ wr.cell? ⟨b, o + (4 * k + j), none⟩ = some (.int .u8 (z : Int)) ∧ xs.getD (4 * k + j) 0 = (z : Int) := by
        intro j hj
        have hbyte : 0 ≤ xs.getD (4 * k + j) 0 ∧ xs.getD (4 * k + j) 0 < 256 := by
          refine hb _ ?_
          simp [List.getElem?_eq_getElem (show 4 * k + j < xs.length by omega)]
        refine ⟨(xs.getD (4 * k + j) 0).toNat, by omega, ?_, by omega⟩
        rw [hbel.cell (p := ⟨b, o + (4 * k + j), none⟩) (World.block_lt_of_cell? w ⟨b, o + (4 * k + j), none⟩ (hcell _ (by omega))), hcell _ (by omega), Int.toNat_of_nonneg hbyte.1]
      obtain ⟨z0, h0, c0, e0⟩ := cell 0 (by omega)
      obtain ⟨z1, h1, c1, e1⟩ := cell 1 (by omega)
      obtain ⟨z2, h2, c2, e2⟩ := cell 2 (by omega)
      obtain ⟨z3, h3, c3, e3⟩ := cell 3 (by omega)
      have HN : Hid (wordsL great xs k ++ [if great = true then ((four z0 z1 z2 z3 : Nat) : Int) else ((four z3 z2 z1 z0 : Nat) : Int)] = wordsL great xs (k + 1)) := by
        rw [Hid, ← wordsL_step great xs k]
        simp only [wordAt, e0, e1, e2, e3, Int.toNat_natCast]
      have h00 := hcell 0 (by omega)
      simp only [Nat.add_zero] at h00
      clear cell e0 e1 e2 e3 hcell h hb
      simp only [Nat.add_zero] at c0
      have hblt : b < w.heap.size := World.block_lt_of_cell? w ⟨b, o, none⟩ h00
      obtain ⟨j, hj⟩ : ∃ j, 4 * k = j := ⟨_, rfl⟩
      rw [hj] at c0 c1 c2 c3 hlt ⊢
      have l0 : j < n := by omega
      obtain ⟨j1, hj1⟩ : ∃ j1, j + 1 = j1 := ⟨_, rfl⟩
      obtain ⟨j2, hj2⟩ : ∃ j2, j + 2 = j2 := ⟨_, rfl⟩
      obtain ⟨j3, hj3⟩ : ∃ j3, j + 3 = j3 := ⟨_, rfl⟩
      rw [hj1] at c1
      rw [hj2] at c2
      rw [hj3] at c3
      have l1 : j1 < n := by omega
      have l2 : j2 < n := by omega
      have l3 : j3 < n := by omega
      have v1 : IntKind.i64.wrap ((j : Int) + 1) = (j1 : Int) := by rw [IntKind.wrap_i64]; omega
      have v2 : IntKind.i64.wrap ((j : Int) + 2) = (j2 : Int) := by rw [IntKind.wrap_i64]; omega
      have v3 : IntKind.i64.wrap ((j : Int) + 3) = (j3 : Int) := by rw [IntKind.wrap_i64]; omega
      have HK : ∀ w', Below w.heap.size wr w' → w'.cell? ⟨b, o + j, none⟩ = some (.int .u8 (z0 : Int)) ∧ w'.cell? ⟨b, o + j1, none⟩ = some (.int .u8 (z1 : Int)) ∧ w'.cell? ⟨b, o + j2, none⟩ = some (.int .u8 (z2 : Int)) ∧ w'.cell? ⟨b, o + j3, none⟩ = some (.int .u8 (z3 : Int)) := fun w' hB => ⟨(hB.cell (p := ⟨b, o + j, none⟩) hblt).trans c0, (hB.cell (p := ⟨b, o + j1, none⟩) hblt).trans c1, (hB.cell (p := ⟨b, o + j2, none⟩) hblt).trans c2, (hB.cell (p := ⟨b, o + j3, none⟩) hblt).trans c3⟩
      cases great
      all_goals simp only [if_true, Bool.false_eq_true, if_false] at HN
      · have HO := or_fourW z3 z2 z1 z0 h3 h2 h1 h0
        go_wp2
        go_region_held3 (fun w' => w'.cell? ⟨b, o + j, none⟩ = some (.int .u8 (z0 : Int)) ∧ w'.cell? ⟨b, o + j1, none⟩ = some (.int .u8 (z1 : Int)) ∧ w'.cell? ⟨b, o + j2, none⟩ = some (.int .u8 (z2 : Int)) ∧ w'.cell? ⟨b, o + j3, none⟩ = some (.int .u8 (z3 : Int))) (first | exact HK _ (Below.refl _ _) | exact HK _ (Below.refl _ _).drew | exact HK _ ((Below.refl _ _).drew.alloc hsz _) | exact HK _ ((Below.refl _ _).alloc hsz _) | exact HK _ hb1 | exact HK _ hb1.drew) (first | (refine step_pushI hi hz0 hz1 hz2 (.tmp 48) (.tmp 78) 88 Tryd.underlying88 _ hown (by omega) hsz (by rfl) (by rfl) (by rfl) (by rfl) ?_; intro g cap w1 ho1 hb1))
        rw [HN.out] at ho1
        go_wp2
        go_roundw
        case rel => exact ⟨k + 1, by omega, by go_num, ho1, hbel.trans hb1⟩
        case measure => simp [intOf]; omega
      · have HO := or_fourW z0 z1 z2 z3 h0 h1 h2 h3
        go_wp2
        go_region_held3 (fun w' => w'.cell? ⟨b, o + j, none⟩ = some (.int .u8 (z0 : Int)) ∧ w'.cell? ⟨b, o + j1, none⟩ = some (.int .u8 (z1 : Int)) ∧ w'.cell? ⟨b, o + j2, none⟩ = some (.int .u8 (z2 : Int)) ∧ w'.cell? ⟨b, o + j3, none⟩ = some (.int .u8 (z3 : Int))) (first | exact HK _ (Below.refl _ _) | exact HK _ (Below.refl _ _).drew | exact HK _ ((Below.refl _ _).drew.alloc hsz _) | exact HK _ ((Below.refl _ _).alloc hsz _) | exact HK _ hb1 | exact HK _ hb1.drew) (first | (refine step_pushI hi hz0 hz1 hz2 (.tmp 16) (.tmp 46) 88 Tryd.underlying88 _ hown (by omega) hsz (by rfl) (by rfl) (by rfl) (by rfl) ?_; intro g cap w1 ho1 hb1))
        rw [HN.out] at ho1
        go_wp2
        go_roundw
        case rel => exact ⟨k + 1, by omega, by go_num, ho1, hbel.trans hb1⟩
        case measure => simp [intOf]; omega
    · have hkn : n / 4 = k := by omega
      obtain ⟨p', c', hv⟩ := owns_form hown
      subst hv
      obtain ⟨j, hj⟩ : ∃ j, 4 * k = j := ⟨_, rfl⟩
      rw [hj] at hlt ⊢
      clear h hb
      go_wp2
      go_ret
      rw [hkn]
      exact ⟨_, _, rfl, .of hown, hbel⟩

end Go.Proofs.YtdjdanpicbaieaaDoor

namespace Go.Proofs.YtdjdanpicbaieaaDoor
open Go.RowKit

theorem append_keeps {P : Program} (w : World) (t ty e : TypeId) (i : TypeInfo) (z : Value) (base : Nat) (ht : P.underlying t = some (.slice e)) (hi : P.info? e = some i) (hz : i.zero = some z) (hsize : i.size = 1) (hzs : z.cells.size = 1)
    (g0 n cap0 : Nat) (xs : List Value) (hown : w.ownsRow base e 1 (.slice (some ⟨g0, 0, none⟩) n cap0) n xs)
    (ad : Addr) (m c : Nat) (news : List Value) (hl : news.length = m) (hnews : ∀ j u, news[j]? = some u → w.cell? (ad.add j) = some u) (h1 : ∀ u ∈ news, u.oneCell' = true)
    (h63 : n + m ≤ maxLen) (hbytes : (n + m) * i.bytes ≤ 140737488355328) (hbase : base ≤ w.heap.size) :
    ∃ g cap w', (Builtin.append_ #[t, t] ty #[.slice (some ⟨g0, 0, none⟩) n cap0, .slice (some ad) m c]).run P w = .ok (.slice (some ⟨g, 0, none⟩) (n + m) cap) w' ∧
      w'.ownsRow base e 1 (.slice (some ⟨g, 0, none⟩) (n + m) cap) (n + m) (xs ++ news) ∧ w.grownBy w' (some g0) ∧ ∀ j, j < n → w'.cell? ⟨g0, j, none⟩ = w.cell? ⟨g0, j, none⟩ := by
  have hg0 : g0 < w.heap.size := (hown.lt g0 rfl).2
  have hxl : xs.length = n := by simpa using hown.1
  have hsmall : n + m ≤ 9223372036854775807 := by simp only [maxLen] at h63; omega
  obtain ⟨v', w', hr, h2, h3, h4, h5⟩ := run_append_own_at (P := P) w base t ty e i z 1 i.bytes ht hi hz hsize rfl hzs (by decide) _ n xs hown ad m c news (by simp [hl]) hnews h1 h63 hbytes hbase
  rcases h2.2 with ⟨hv, h0⟩ | ⟨g, cap, cur, rfl, hbg, hg, hrest⟩
  · exact absurd (h4.1 hv).1 (by simp)
  · refine ⟨g, cap, w', hr, h2, h3, fun j hj => ?_⟩
    by_cases e0 : g = g0
    · subst e0
      rw [h2.cellAt j (by omega), hown.cellAt j (by omega), List.getElem?_append_left (by omega)]
    · rcases hown.2 with ⟨hv, _⟩ | ⟨g1, cap1, cur1, hv1, hb1, hg1, hnc, hcm, hcs, htake⟩
      · cases hv
      · simp only [Value.slice.injEq, Option.some.injEq, Addr.mk.injEq, and_true, true_and] at hv1
        obtain ⟨rfl, rfl⟩ := hv1
        by_cases hroom : n + m ≤ cap0
        · have hr2 := run_append_room (P := P) w t ty e i ht hi g0 n cap0 cur1 hg1 ad m c news (by rw [hsize]; omega) hnews h1 hroom (by rw [hsize, hcs]; omega)
          rw [hr] at hr2
          simp only [Result.ok.injEq, Value.slice.injEq, Option.some.injEq, Addr.mk.injEq, and_true] at hr2
          exact absurd hr2.1.1 e0
        · have holds : ∀ j u, xs[j]? = some u → w.cell? ((⟨g0, 0, none⟩ : Addr).add j) = some u := hown.cells (g := g0) rfl
          have hr2 := run_append_grow (P := P) w t ty e i z ht hi hz ⟨g0, 0, none⟩ n cap0 xs (by rw [hsize]; omega) holds ad m c news (by rw [hsize]; omega) hnews (by omega) (by omega) (growslice_fits (by omega) hbytes)
          rw [hr] at hr2
          simp only [Result.ok.injEq] at hr2
          rw [hr2.2, World.cell?_alloc_lt _ _ _ (by simpa using hg0)]
          simp

theorem step_pushKeep {P : Program} {e : TypeId} {i : TypeInfo} {base n : Nat} {wr : World} {xs : List Int} {ops : Array Oper} {o : Oper} {a : Act} {K : Act → World → Prop} {Q : Exit → Act → World → Prop} {E : Prop} (hi : P.info? e = some i) (hz : i.zero = some (.int .i64 0)) (hsize : i.size = 1) (hby : i.bytes = 8)
    (s y : Operand) (t : TypeId) (ht : P.underlying t = some (.slice e)) (x : Int) (g0 cap0 B : Nat) (hB : wr.heap[B]? = some (.cells #[.int .i64 x] e (0, 0))) (hown : wr.ownsRow base e 1 (.slice (some ⟨g0, 0, none⟩) n cap0) n (xs.map (Value.int .i64))) (hn : n ≤ 1099511627776) (hbase : base ≤ wr.heap.size)
    (hgd : o.guard = none) (ho : o.op = .call { callee := .builtin .append, args := #[s, y], argTypes := #[t, t] }) (hs : a.eval s = .slice (some ⟨g0, 0, none⟩) n cap0) (hy : a.eval y = .slice (some ⟨B, 0, none⟩) 1 1)
    (h : ∀ g cap w', w'.ownsRow base e 1 (.slice (some ⟨g, 0, none⟩) (n + 1) cap) (n + 1) ((xs ++ [x]).map (Value.int .i64)) → Below base wr w' → (∀ j, j < n → w'.cell? ⟨g0, j, none⟩ = wr.cell? ⟨g0, j, none⟩) → K (a.put o.dst (.slice (some ⟨g, 0, none⟩) (n + 1) cap)) w') :
    if Region.wanted o (yielded ops a.tmps) = true then Oper.wp P o a wr K Q else E := by
  have hw : Region.wanted o (yielded ops a.tmps) = true := by simp [Region.wanted, hgd]
  rw [if_pos hw]
  obtain ⟨g, cap, w', hr, h2, h3, h4⟩ := append_keeps (P := P) wr t o.type e i _ base ht hi hz hsize rfl g0 n cap0 _ hown ⟨B, 0, none⟩ 1 1 [.int .i64 x] rfl (World.news_of_block (cs := #[.int .i64 x]) hB) (fun u hu => by simp at hu; subst hu; rfl) (pushs_fitI hn (by decide)).1 (by rw [hby]; exact (pushs_fitI hn (by decide)).2) hbase
  unfold Oper.wp execOp
  simp only [ho, resolve, invoke, builtin, Sem.run_bind, Sem.run_pure, Result.andThen_ok, List.map_toArray, List.map_cons, List.map_nil, hs, hy, hr]
  exact h g cap w' (by simpa using h2) ((Below.refl _ _).grown h3 hbase fun k hk => by cases hk; exact (hown.lt g0 rfl).1) h4

end Go.Proofs.YtdjdanpicbaieaaDoor

namespace Go.Proofs.YtdjdanpicbaieaaDoor
open Go.RowKit
set_option maxRecDepth 100000

def natsL (l : List Nat) : List Int := l.map fun (n : Nat) => (n : Int)
theorem natsL_length (l : List Nat) : (natsL l).length = l.length := by simp [natsL]
theorem natsL_getD (l : List Nat) (i : Nat) : (natsL l).getD i 0 = ((l.getD i 0 : Nat) : Int) := by
  simp only [natsL, List.getD_eq_getElem?_getD, List.getElem?_map]
  cases l[i]? <;> rfl
theorem natsL_append (l m : List Nat) : natsL (l ++ m) = natsL l ++ natsL m := by simp [natsL]
theorem natsL_take (l : List Nat) (k : Nat) : natsL (l.take k) = (natsL l).take k := by simp [natsL, List.map_take]

/-- The sixteen words of a block. -/
def wsOf (xs : List Int) : List Nat := (wordsL true xs 16).map Int.toNat
theorem wsOf_length (xs : List Int) : (wsOf xs).length = 16 := by simp [wsOf, wordsL_length]
theorem wsOf_nats (xs : List Int) : natsL (wsOf xs) = wordsL true xs 16 := by
  simp only [natsL, wsOf, wordsL, List.map_map]
  apply List.map_congr_left
  intro i _
  simp [wordAt]
theorem byte_lt {xs : List Int} (hb : ∀ x ∈ xs, 0 ≤ x ∧ x < 256) (i : Nat) : (xs.getD i 0).toNat < 256 := by
  rw [List.getD_eq_getElem?_getD]
  cases e : xs[i]? with
  | none => decide
  | some v =>
    have := hb v (List.mem_of_getElem? e)
    simp only [Option.getD_some]
    omega
theorem wsOf_lt {xs : List Int} (hb : ∀ x ∈ xs, 0 ≤ x ∧ x < 256) : ∀ x ∈ wsOf xs, x < 4294967296 := by
  intro x hx
  simp only [wsOf, wordsL, List.map_map, List.mem_map, Function.comp] at hx
  obtain ⟨i, _, rfl⟩ := hx
  have h0 := byte_lt hb (4 * i + 0)
  have h1 := byte_lt hb (4 * i + 1)
  have h2 := byte_lt hb (4 * i + 2)
  have h3 := byte_lt hb (4 * i + 3)
  simp only [wordAt, if_true, Int.toNat_natCast, four]
  omega

theorem ownsI_lit (w : World) (ty : Nat) (cs : Array Value) (n : Nat) (xs : List Int) (h : cs.toList = xs.map (Value.int .i64)) (hn : xs.length = n) (hm : n ≤ maxLen) :
    OwnI ty (w.alloc (.cells cs ty)) w.heap.size (w.heap.size + 1) (.slice (some ⟨w.heap.size, 0, none⟩) n n) n xs := by
  have hs : cs.size = n := by rw [← Array.length_toList, h, List.length_map, hn]
  refine ⟨⟨by simp [hn], .inr ⟨w.heap.size, n, cs, rfl, Nat.le_refl _, heap_alloc_new w _, Nat.le_refl _, hm, by simp [hs], ?_⟩⟩, ?_⟩
  · rw [h, List.take_of_length_le (by simp [hn])]
  · intro k hk
    simp [Value.ownBlock] at hk
    omega

theorem l3Table_any (w : World) :
    Calls Tryd.prog 97 #[] w fun e w' => ∃ p c, e = .returned (.slice p 64 c) ∧ OwnI 3 w' w.heap.size w'.heap.size (.slice p 64 c) 64 (natsL keysL) ∧ Below w.heap.size w w' := by
  go_enter Tryd.func97, Tryd.ntmps97
  go_wp2
  go_ret
  refine ⟨_, _, rfl, ?_, (Below.refl _ _).alloc (Nat.le_refl _) _⟩
  have h := ownsI_lit w 3 ((natsL keysL).map (Value.int .i64)).toArray 64 (natsL keysL) (by simp) (by simp [natsL, keysL]) (by unfold maxLen; omega)
  simpa [natsL, keysL] using h

theorem specWords64 (p : Option Addr) (c : Nat) (xs : List Int) (w : World) (hx : xs.length = 64) (h : BytesIn w p 64 xs) (hb : ∀ x ∈ xs, 0 ≤ x ∧ x < 256) :
    Calls Tryd.prog 116 #[.slice p 64 c, .bool true] w fun e w' => ∃ p' c', e = .returned (.slice p' 16 c') ∧ OwnI 3 w' w.heap.size w'.heap.size (.slice p' 16 c') 16 (natsL (wsOf xs)) ∧ Below w.heap.size w w' := by
  rw [wsOf_nats]
  exact specWords_any p 64 c true xs w (by omega) hx h hb

theorem more_step (l : List Nat) (k : Nat) (u : Nat) (hu : u = nextN (moreN l k) (16 + k)) : natsL (moreN l k) ++ [(u : Int)] = natsL (moreN l (k + 1)) := by
  subst hu
  simp [natsL, moreN]

set_option maxHeartbeats 4000000 in
theorem l3More_any (p : Option Addr) (c : Nat) (xs : List Int) (w : World) (hx : xs.length = 64) (h : BytesIn w p 64 xs) (hb : ∀ x ∈ xs, 0 ≤ x ∧ x < 256) :
    Calls Tryd.prog 96 #[.slice p 64 c] w fun e w' => ∃ p' c', e = .returned (.slice p' 64 c') ∧ OwnI 3 w' w.heap.size w'.heap.size (.slice p' 64 c') 64 (natsL (spreadN (wsOf xs))) ∧ Below w.heap.size w w' := by
  obtain ⟨i0, hi, hz0, hz1, hz2⟩ := info_parts infoInt
  have hwl := wsOf_length xs
  have hwt := wsOf_lt hb
  have C := fun w h => specWords64 p c xs w hx h hb
  unfold spreadN
  generalize wsOf xs = ws at hwl hwt C ⊢
  go_enter Tryd.func96, Tryd.ntmps96
  go_wp2_with (fail)
  refine (C _ h).mono ?_
  rintro e w1 ⟨p1, c1, rfl, r1, b1⟩
  have ho1 := r1.1
  clear C h hb hx r1
  go_wp2_with (fail)
  go_loopw [3, 4] (fun v i wr => ∃ k t : Nat, t = 16 + k ∧ k ≤ 48 ∧ i = .int .i64 t ∧ wr.ownsRow w.heap.size 3 1 v t ((natsL (moreN ws k)).map (Value.int .i64)) ∧ Below w.heap.size w wr)
    (fun _ i _ => 64 - (intOf i).toNat)
  case atStart => exact ⟨0, 16, rfl, by omega, rfl, ho1, b1⟩
  case round =>
    clear ho1 b1
    obtain ⟨k, t, ht, hk, rfl, hown, hbel⟩ := hrel
    have hsz := hbel.size
    by_cases hlt : k < 48
    · obtain ⟨p', cap0, hv⟩ := owns_form hown
      subst hv
      obtain ⟨g0, rfl⟩ := owns_at hown (by omega)
      have hg0 := (hown.lt g0 rfl).2
      have hml := moreN_lt hwt k
      have cell : ∀ j, j < t → wr.cell? ⟨g0, j, none⟩ = some (.int .i64 (((moreN ws k).getD j 0 : Nat) : Int)) := by
        intro j hj
        have hl2 : (moreN ws k).length = t := by rw [moreN_length, hwl, ht]
        rw [hown.cellAt j (by omega), ← natsL_getD, List.getElem?_map, List.getD_eq_getElem?_getD, List.getElem?_eq_getElem (by rw [natsL_length]; omega)]
        rfl
      obtain ⟨j2, hj2⟩ : ∃ j2, t = j2 + 2 := ⟨t - 2, by omega⟩
      obtain ⟨j7, hj7⟩ : ∃ j7, t = j7 + 7 := ⟨t - 7, by omega⟩
      obtain ⟨j15, hj15⟩ : ∃ j15, t = j15 + 15 := ⟨t - 15, by omega⟩
      obtain ⟨j16, hj16⟩ : ∃ j16, t = j16 + 16 := ⟨t - 16, by omega⟩
      have l2 : j2 < t := by omega
      have l7 : j7 < t := by omega
      have l15 : j15 < t := by omega
      have l16 : j16 < t := by omega
      have d2 := cell j2 l2
      have d7 := cell j7 l7
      have d15 := cell j15 l15
      have d16 := cell j16 l16
      have m2 := getD_lt hml (by decide) j2
      have m7 := getD_lt hml (by decide) j7
      have m15 := getD_lt hml (by decide) j15
      have m16 := getD_lt hml (by decide) j16
      have HU : Hid (∀ u, u = (smallN ((moreN ws k).getD j2 0) 17 19 10 + (moreN ws k).getD j7 0 + smallN ((moreN ws k).getD j15 0) 7 18 3 + (moreN ws k).getD j16 0) % 4294967296 → natsL (moreN ws k) ++ [(u : Int)] = natsL (moreN ws (k + 1))) := by
        intro u hu
        refine more_step ws k u ?_
        unfold nextN
        rw [← ht, show t - 2 = j2 by omega, show t - 7 = j7 by omega, show t - 15 = j15 by omega, show t - 16 = j16 by omega]
        exact hu
      clear cell hml
      generalize (moreN ws k).getD j2 0 = a2 at d2 m2 HU
      generalize (moreN ws k).getD j7 0 = a7 at d7 m7 HU
      generalize (moreN ws k).getD j15 0 = a15 at d15 m15 HU
      generalize (moreN ws k).getD j16 0 = a16 at d16 m16 HU
      have C1 := fun w => l3Mix_s1 a2 w m2
      have C0 := fun w => l3Mix_s0 a15 w m15
      have n1 := smallN_lt (a := 17) (b := 19) (c := 10) m2 (by decide) (by decide)
      have n0 := smallN_lt (a := 7) (b := 18) (c := 3) m15 (by decide) (by decide)
      generalize smallN a2 17 19 10 = r1 at C1 n1 HU
      generalize smallN a15 7 18 3 = r0 at C0 n0 HU
      obtain ⟨u, hu⟩ : ∃ u, u = (r1 + a7 + r0 + a16) % 4294967296 := ⟨_, rfl⟩
      have HN : Hid (natsL (moreN ws k) ++ [(u : Int)] = natsL (moreN ws (k + 1))) := HU.out u hu
      have CW : ∀ w, Calls Tryd.prog 98 #[.int .i64 ((r1 : Int) + a7 + r0 + a16)] w fun e w' => e = .returned (.int .i64 (u : Int)) ∧ w' = w := by
        intro w
        have := specWord_same ((r1 : Int) + a7 + r0 + a16) w
        rw [show ((r1 : Int) + a7 + r0 + a16) % 4294967296 = (u : Int) by omega] at this
        exact this
      have HK : ∀ w', Below wr.heap.size wr w' → w'.cell? ⟨g0, j2, none⟩ = some (.int .i64 (a2 : Int)) ∧ w'.cell? ⟨g0, j7, none⟩ = some (.int .i64 (a7 : Int)) ∧ w'.cell? ⟨g0, j15, none⟩ = some (.int .i64 (a15 : Int)) ∧ w'.cell? ⟨g0, j16, none⟩ = some (.int .i64 (a16 : Int)) := fun w' hB => ⟨(hB.cell (p := ⟨g0, j2, none⟩) hg0).trans d2, (hB.cell (p := ⟨g0, j7, none⟩) hg0).trans d7, (hB.cell (p := ⟨g0, j15, none⟩) hg0).trans d15, (hB.cell (p := ⟨g0, j16, none⟩) hg0).trans d16⟩
      have v2 : IntKind.i64.wrap ((t : Int) - 2) = (j2 : Int) := by rw [IntKind.wrap_i64]; omega
      have v7 : IntKind.i64.wrap ((t : Int) - 7) = (j7 : Int) := by rw [IntKind.wrap_i64]; omega
      have v15 : IntKind.i64.wrap ((t : Int) - 15) = (j15 : Int) := by rw [IntKind.wrap_i64]; omega
      have v16 : IntKind.i64.wrap ((t : Int) - 16) = (j16 : Int) := by rw [IntKind.wrap_i64]; omega
      have q1 : IntKind.i64.wrap ((r1 : Int) + a7) = (r1 : Int) + a7 := by rw [IntKind.wrap_i64]; omega
      have q2 : IntKind.i64.wrap ((r1 : Int) + a7 + r0) = (r1 : Int) + a7 + r0 := by rw [IntKind.wrap_i64]; omega
      have q3 : IntKind.i64.wrap ((r1 : Int) + a7 + r0 + a16) = (r1 : Int) + a7 + r0 + a16 := by rw [IntKind.wrap_i64]; omega
      clear HU hu d2 d7 d15 d16
      have htl : t < 64 := by omega
      have HT : Hid (t = 16 + k) := ht
      clear hj2 hj7 hj15 hj16 ht
      go_wp2_with (fail)
      go_region_held3 (fun w' => w'.cell? ⟨g0, j2, none⟩ = some (.int .i64 (a2 : Int)) ∧ w'.cell? ⟨g0, j7, none⟩ = some (.int .i64 (a7 : Int)) ∧ w'.cell? ⟨g0, j15, none⟩ = some (.int .i64 (a15 : Int)) ∧ w'.cell? ⟨g0, j16, none⟩ = some (.int .i64 (a16 : Int)))
        (first | exact hS3 | exact HK _ e2 | exact HK _ e1 | exact HK _ (e2.alloc e2.size _) | exact HK _ (Below.refl _ _) | exact HK _ (Below.refl _ _).drew)
        (first | (go_at_call_of 99 a2; refine (C1 _).mono ?_; rintro e w1 ⟨rfl, dn1, hw1⟩; have e1 : Below wr.heap.size wr w1 := (by rw [hw1]; exact below_drewN (Below.refl _ _).drew _); clear hw1) | (go_at_call_of 99 a15; refine (C0 _).mono ?_; rintro e w2 ⟨rfl, dn2, hw2⟩; have e2 : Below wr.heap.size wr w2 := (by rw [hw2]; exact below_drewN e1 _); clear hw2) | (go_at_call 98; refine (CW _).mono ?_; rintro e w3 ⟨rfl, rfl⟩) | (refine step_pushKeep hi hz0 hz1 hz2 (.tmp 11) (.tmp 38) 88 Tryd.underlying88 (u : Int) g0 cap0 _ (heap_alloc_new _ _) ((owns_below hown e2).alloc _) (by omega) (by have := e2.size; simp; omega) (by rfl) (by rfl) (by rfl) (by rfl) ?_; intro g cap w4 ho4 hb4 hk4; have hS3 := And.intro ((hk4 j2 l2).trans (HK _ (e2.alloc e2.size _)).1) (And.intro ((hk4 j7 l7).trans (HK _ (e2.alloc e2.size _)).2.1) (And.intro ((hk4 j15 l15).trans (HK _ (e2.alloc e2.size _)).2.2.1) ((hk4 j16 l16).trans (HK _ (e2.alloc e2.size _)).2.2.2)))))
      rw [HN.out] at ho4
      go_wp2
      go_roundw
      case rel => exact ⟨k + 1, t + 1, by have := HT.out; omega, by omega, by go_num, ho4, (below_on hbel (e2.alloc e2.size _)).trans hb4⟩
      case measure => simp [intOf]; omega
    · obtain rfl : k = 48 := by omega
      obtain rfl : t = 64 := by omega
      obtain ⟨p', c', hv⟩ := owns_form hown
      subst hv
      go_wp2
      go_ret
      exact ⟨_, _, rfl, .of hown, hbel⟩

end Go.Proofs.YtdjdanpicbaieaaDoor
