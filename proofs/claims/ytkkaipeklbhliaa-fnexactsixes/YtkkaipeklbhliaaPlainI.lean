/-
  Plain facts on worlds and lists of ints for the proofs of this seat, as those of Plain on bytes: what a row of ints that the call made reads as, that it stays, what is stored into it and appended to it; and an append of bytes that lie somewhere. Conditions: none beyond each fact's own.
-/
import Derived.Test.YtkkaipeklbhliaaPlain
namespace Go.Proofs.Ytkkaipeklbhliaa
open Go.RowKit
set_option maxRecDepth 100000

/-- The bytes xs lie in a slice of n elements at p; of one that has none nothing is said. -/
def IntsIn (w : World) (p : Option Addr) (n : Nat) (xs : List Int) : Prop :=
  0 < n → ∃ b o, p = some ⟨b, o, none⟩ ∧ ∀ i, i < n → w.cell? ⟨b, o + i, none⟩ = some (.int .i64 (xs.getD i 0))

/-- What a row of bytes that the call owns reads as. -/
theorem owns_inI {w : World} {base e : Nat} {p : Option Addr} {n c : Nat} {xs : List Int} (h : w.ownsRow base e 1 (.slice p n c) n (xs.map (Value.int .i64))) : IntsIn w p n xs := by
  intro hn
  rcases h.2 with ⟨_, h0⟩ | ⟨g, cap, cur, hv, _, _⟩
  · omega
  · simp only [Value.slice.injEq] at hv
    obtain ⟨rfl, _, rfl⟩ := hv
    refine ⟨g, 0, rfl, fun i hi => ?_⟩
    have hl := h.1
    simp only [List.length_map, Nat.mul_one] at hl
    have := h.cellAt i (by omega)
    simp only [Nat.zero_add]
    rw [this]
    simp [List.getElem?_eq_getElem (show i < xs.length by omega), List.getD]

/-- What lies somewhere lies there behind a step that turned nothing old. -/
theorem in_belowI {w w' : World} {p : Option Addr} {n : Nat} {xs : List Int} (h : IntsIn w p n xs) (hb : Below w.heap.size w w') : IntsIn w' p n xs := by
  intro hn
  obtain ⟨b, o, rfl, hc⟩ := h hn
  refine ⟨b, o, rfl, fun i hi => ?_⟩
  have hlt : b < w.heap.size := World.block_lt_of_cell? w ⟨b, o + i, none⟩ (hc i hi)
  rw [hb.cell (p := ⟨b, o + i, none⟩) hlt]
  exact hc i hi

theorem owns_lenI {w : World} {base e : Nat} {v : Value} {n : Nat} {xs : List Int} (h : w.ownsRow base e 1 v n (xs.map (Value.int .i64))) : xs.length = n := by
  have := h.1; simpa using this

/-- One byte more of xs in the place of a nought. -/
theorem fill_stepI (xs : List Int) (n k : Nat) (u : Int) (hu : u = xs.getD k 0) (hk : k < n) (hx : xs.length = n) :
    ((xs.take k ++ List.replicate (n - k) 0).map (Value.int .i64)).set k (.int .i64 u) = (xs.take (k + 1) ++ List.replicate (n - (k + 1)) 0).map (Value.int .i64) := by
  subst hu
  simp only [List.getD_eq_getElem?_getD]
  apply List.ext_getElem
  · simp; omega
  · intro i h1 h2
    simp only [List.getElem_set, List.getElem_map]
    simp at h1 h2
    by_cases e : k = i
    · subst e
      simp [List.getElem_append, hx, hk]
      intro h; omega
    · simp only [e, if_false]
      by_cases hi : i < k
      · simp [List.getElem_append, hx]
        rw [dif_pos (by omega), dif_pos (by omega)]
      · simp [List.getElem_append, hx]
        rw [dif_neg (by omega), dif_neg (by omega)]

theorem fill_oldI (xs : List Int) (n k : Nat) (hk : k < n) (hx : xs.length = n) : ((xs.take k ++ List.replicate (n - k) 0).map (Value.int .i64))[k]? = some (.int .i64 0) := by
  rw [List.getElem?_eq_getElem (by simp; omega)]
  simp [List.getElem_append, hx]
  intro h; omega

theorem fill_startI (xs : List Int) (n : Nat) : (madeCells #[Value.int .i64 0] n).toList = (xs.take 0 ++ List.replicate (n - 0) 0).map (Value.int .i64) := by
  rw [toList_madeCells_one]
  simp

/-- What is laid by markIntS from k on. -/
def marksI (k : Int) (n : Nat) : List Int := (List.range n).map fun (i : Nat) => (k + (i : Int))

theorem marksI_length (k : Int) (n : Nat) : (marksI k n).length = n := by simp [marksI]

theorem marksI_getD (k : Int) (n i : Nat) (h : i < n) : (marksI k n).getD i 0 = (k + (i : Int)) := by simp [marksI, h]

theorem marksI_step (k : Int) (xs : List Int) (n j : Nat) (u : Int) (hu : u = (k + (j : Int))) (hj : j < n) (hx : xs.length = n) :
    ((marksI k j ++ xs.drop j).map (Value.int .i64)).set j (.int .i64 u) = (marksI k (j + 1) ++ xs.drop (j + 1)).map (Value.int .i64) := by
  subst hu
  have e : xs.drop j = xs[j]'(by omega) :: xs.drop (j + 1) := List.drop_eq_getElem_cons (by omega)
  have m : marksI k (j + 1) = marksI k j ++ [(k + (j : Int))] := by simp [marksI, List.range_succ]
  rw [e, m, List.map_append, List.map_cons, List.set_append_right _ _ (by simp [marksI_length])]
  simp [marksI_length]

theorem marksI_old (k : Int) (xs : List Int) (n j : Nat) (hj : j < n) (hx : xs.length = n) : ∃ u, ((marksI k j ++ xs.drop j).map (Value.int .i64))[j]? = some (.int .i64 u) := by
  refine ⟨(marksI k j ++ xs.drop j)[j]'(by simp [marksI_length]; omega), ?_⟩
  rw [List.getElem?_eq_getElem (by simp [marksI_length]; omega), List.getElem_map]

theorem marksI_end (k : Int) (xs : List Int) (n : Nat) (hx : xs.length = n) : marksI k n ++ xs.drop n = marksI k n := by
  rw [List.drop_of_length_le (by omega), List.append_nil]

/-- A row of bytes xs that the call made: v, of n elements; its block lies from lo on and ahead of hi. -/
def OwnI (e : Nat) (w : World) (lo hi : Nat) (v : Value) (n : Nat) (xs : List Int) : Prop := w.ownsRow lo e 1 v n (xs.map (Value.int .i64)) ∧ ∀ k, v.ownBlock = some k → k < hi

section
variable {e : Nat} {w w' a : World} {lo hi lo' hi' : Nat} {u v : Value} {n m : Nat} {xs ys : List Int}

theorem OwnI.of (h : w.ownsRow lo e 1 v n (xs.map (Value.int .i64))) : OwnI e w lo w.heap.size v n xs := ⟨h, fun k hk => (h.lt k hk).2⟩
theorem OwnI.on (h : OwnI e w lo hi v n xs) (hb : Below w.heap.size w w') : OwnI e w' lo hi v n xs := ⟨owns_below h.1 hb, h.2⟩
theorem OwnI.far (h : OwnI e w lo hi v n xs) (hg : w.grownBy w' u.ownBlock) (hu : OwnI e w lo' hi' u m ys) (hd : hi ≤ lo' ∨ hi' ≤ lo) : OwnI e w' lo hi v n xs := by
  refine ⟨h.1.kept hg ?_, h.2⟩
  rcases hv : v.ownBlock with _ | k
  · exact .inl rfl
  · right
    intro he
    have h1 := h.2 k hv
    have h2 := (h.1.lt k hv).1
    have h3 := hu.2 k he.symm
    have h4 := (hu.1.lt k he.symm).1
    omega
theorem OwnI.len (h : OwnI e w lo hi v n xs) : xs.length = n := owns_lenI h.1
theorem OwnI.ints {p : Option Addr} {c : Nat} (h : OwnI e w lo hi (.slice p n c) n xs) : IntsIn w p n xs := owns_inI h.1
theorem below_markI (h : Below a.heap.size a w) (hg : w.grownBy w' u.ownBlock) (hu : OwnI e w lo' hi' u m ys) (hlo : a.heap.size ≤ lo') : Below a.heap.size a w' :=
  h.grown hg h.size fun k hk => Nat.le_trans hlo (hu.1.lt k hk).1
end

section
variable {P : Program} {e : TypeId} {i : TypeInfo} {base n : Nat} {wr : World} {v : Value} {xs : List Int}

theorem pushs_fitI {n m : Nat} (hn : n ≤ 1099511627776) (hm : m ≤ 1099511627776) : n + m ≤ maxLen ∧ (n + m) * 8 ≤ 140737488355328 := by unfold maxLen; omega

/-- 'append(out, x, y, ..)' of some bytes, out a row that the call owns, as one step of a region that draws its order. -/
theorem step_pushsI {ops : Array Oper} {o : Oper} {a : Act} {K : Act → World → Prop} {Q : Exit → Act → World → Prop} {E : Prop} (hi : P.info? e = some i) (hz : i.zero = some (.int .i64 0)) (hsize : i.size = 1) (hby : i.bytes = 8)
    (s y : Operand) (t : TypeId) (ht : P.underlying t = some (.slice e)) (cs : Array Value) (ys : List Int) (hcs : cs.toList = ys.map (Value.int .i64)) (hm : 0 < ys.length) (hm' : ys.length ≤ 1099511627776)
    (hown : wr.ownsRow base e 1 v n (xs.map (Value.int .i64))) (hn : n ≤ 1099511627776) (hbase : base ≤ wr.heap.size)
    (hgd : o.guard = none) (ho : o.op = .call { callee := .builtin .append, args := #[s, y], argTypes := #[t, t] }) (hs : a.eval s = v) (hy : a.eval y = .slice (some ⟨wr.heap.size, 0, none⟩) ys.length ys.length)
    (h : ∀ g cap w', w'.ownsRow base e 1 (.slice (some ⟨g, 0, none⟩) (n + ys.length) cap) (n + ys.length) ((xs ++ ys).map (Value.int .i64)) → Below base wr w' → K (a.put o.dst (.slice (some ⟨g, 0, none⟩) (n + ys.length) cap)) w') :
    if Region.wanted o (yielded ops a.tmps) = true then Oper.wp P o a (wr.alloc (.cells cs e)).drew K Q else E := by
  refine step_append_lies _ hgd s y t ho base e i (.int .i64 0) 1 8 ht hi hz hsize hby rfl (by decide) v n (xs.map (Value.int .i64)) hs (hown.alloc _).drew ⟨wr.heap.size, 0, none⟩ ys.length ys.length (ys.map (Value.int .i64)) hy (by simp) ?_ (ints_oneCell _ _) hm (pushs_fitI hn hm').1 (pushs_fitI hn hm').2 (by simp; omega) _ rfl ?_
  · rw [← hcs]
    exact World.news_of_block (cs := cs) (heap_alloc_new wr _)
  · intro g cap w' h1 h2 _ _
    refine h g cap w' (by simpa using h1) (((Below.refl _ _).alloc hbase _).drew.grown h2 (by simp; omega) fun k hk => (hown.lt k hk).1)

/-- The same in a plain region. -/
theorem list_pushsI {ops : Array Oper} {rest : List Oper} {o : Oper} {a : Act} {Q : Exit → Act → World → Prop} (hi : P.info? e = some i) (hz : i.zero = some (.int .i64 0)) (hsize : i.size = 1) (hby : i.bytes = 8)
    (s y : Operand) (t : TypeId) (ht : P.underlying t = some (.slice e)) (cs : Array Value) (ys : List Int) (hcs : cs.toList = ys.map (Value.int .i64)) (hm : 0 < ys.length) (hm' : ys.length ≤ 1099511627776)
    (hown : wr.ownsRow base e 1 v n (xs.map (Value.int .i64))) (hn : n ≤ 1099511627776) (hbase : base ≤ wr.heap.size)
    (hgd : o.guard = none) (ho : o.op = .call { callee := .builtin .append, args := #[s, y], argTypes := #[t, t] }) (hs : a.eval s = v) (hy : a.eval y = .slice (some ⟨wr.heap.size, 0, none⟩) ys.length ys.length)
    (h : ∀ g cap w', w'.ownsRow base e 1 (.slice (some ⟨g, 0, none⟩) (n + ys.length) cap) (n + ys.length) ((xs ++ ys).map (Value.int .i64)) → Below base wr w' → wpList P ops Q rest (a.put o.dst (.slice (some ⟨g, 0, none⟩) (n + ys.length) cap)) w') :
    wpList P ops Q (o :: rest) a (wr.alloc (.cells cs e)) := by
  refine wpList_append_lies _ hgd s y t ho base e i (.int .i64 0) 1 8 ht hi hz hsize hby rfl (by decide) v n (xs.map (Value.int .i64)) hs (hown.alloc _) ⟨wr.heap.size, 0, none⟩ ys.length ys.length (ys.map (Value.int .i64)) hy (by simp) ?_ (ints_oneCell _ _) hm (pushs_fitI hn hm').1 (pushs_fitI hn hm').2 (by simp; omega) _ rfl ?_
  · rw [← hcs]
    exact World.news_of_block (cs := cs) (heap_alloc_new wr _)
  · intro g cap w' h1 h2 _ _
    refine h g cap w' (by simpa using h1) (((Below.refl _ _).alloc hbase _).grown h2 (by simp; omega) fun k hk => (hown.lt k hk).1)

/-- One byte in a plain region, and every other block stays as it was. -/
theorem list_pushKI {ops : Array Oper} {rest : List Oper} {o : Oper} {a : Act} {Q : Exit → Act → World → Prop} (hi : P.info? e = some i) (hz : i.zero = some (.int .i64 0)) (hsize : i.size = 1) (hby : i.bytes = 8)
    (s y : Operand) (t : TypeId) (ht : P.underlying t = some (.slice e)) (x : Int) (hown : wr.ownsRow base e 1 v n (xs.map (Value.int .i64))) (hn : n ≤ 1099511627776) (hbase : base ≤ wr.heap.size)
    (hgd : o.guard = none) (ho : o.op = .call { callee := .builtin .append, args := #[s, y], argTypes := #[t, t] }) (hs : a.eval s = v) (hy : a.eval y = .slice (some ⟨wr.heap.size, 0, none⟩) 1 1)
    (h : ∀ g cap w', w'.ownsRow base e 1 (.slice (some ⟨g, 0, none⟩) (n + 1) cap) (n + 1) ((xs ++ [x]).map (Value.int .i64)) → Below base wr w' → (∀ k, k < wr.heap.size → some k ≠ v.ownBlock → w'.heap[k]? = wr.heap[k]?) → wpList P ops Q rest (a.put o.dst (.slice (some ⟨g, 0, none⟩) (n + 1) cap)) w') :
    wpList P ops Q (o :: rest) a (wr.alloc (.cells #[.int .i64 x] e)) := by
  refine wpList_append_lies _ hgd s y t ho base e i (.int .i64 0) 1 8 ht hi hz hsize hby rfl (by decide) v n (xs.map (Value.int .i64)) hs (hown.alloc _) ⟨wr.heap.size, 0, none⟩ 1 1 [.int .i64 x] hy rfl ?_ (fun u hu => by simp at hu; subst hu; rfl) (by decide) (pushs_fitI hn (by decide)).1 (pushs_fitI hn (by decide)).2 (by simp; omega) _ rfl ?_
  · exact World.news_of_block (cs := #[.int .i64 x]) (heap_alloc_new wr _)
  · intro g cap w' h1 h2 _ _
    refine h g cap w' (by simpa using h1) (((Below.refl _ _).alloc hbase _).grown h2 (by simp; omega) fun k hk => (hown.lt k hk).1) fun k hk hne => ?_
    rw [h2.block k (by simp; omega) hne]
    exact Below.heap_alloc _ _ _ hk

/-- One byte. -/
theorem step_pushI {ops : Array Oper} {o : Oper} {a : Act} {K : Act → World → Prop} {Q : Exit → Act → World → Prop} {E : Prop} (hi : P.info? e = some i) (hz : i.zero = some (.int .i64 0)) (hsize : i.size = 1) (hby : i.bytes = 8)
    (s y : Operand) (t : TypeId) (ht : P.underlying t = some (.slice e)) (x : Int) (hown : wr.ownsRow base e 1 v n (xs.map (Value.int .i64))) (hn : n ≤ 1099511627776) (hbase : base ≤ wr.heap.size)
    (hgd : o.guard = none) (ho : o.op = .call { callee := .builtin .append, args := #[s, y], argTypes := #[t, t] }) (hs : a.eval s = v) (hy : a.eval y = .slice (some ⟨wr.heap.size, 0, none⟩) 1 1)
    (h : ∀ g cap w', w'.ownsRow base e 1 (.slice (some ⟨g, 0, none⟩) (n + 1) cap) (n + 1) ((xs ++ [x]).map (Value.int .i64)) → Below base wr w' → K (a.put o.dst (.slice (some ⟨g, 0, none⟩) (n + 1) cap)) w') :
    if Region.wanted o (yielded ops a.tmps) = true then Oper.wp P o a (wr.alloc (.cells #[.int .i64 x] e)).drew K Q else E :=
  step_pushsI hi hz hsize hby s y t ht #[.int .i64 x] [x] rfl (by simp) (by simp) hown hn hbase hgd ho hs hy h

theorem list_pushI {ops : Array Oper} {rest : List Oper} {o : Oper} {a : Act} {Q : Exit → Act → World → Prop} (hi : P.info? e = some i) (hz : i.zero = some (.int .i64 0)) (hsize : i.size = 1) (hby : i.bytes = 8)
    (s y : Operand) (t : TypeId) (ht : P.underlying t = some (.slice e)) (x : Int) (hown : wr.ownsRow base e 1 v n (xs.map (Value.int .i64))) (hn : n ≤ 1099511627776) (hbase : base ≤ wr.heap.size)
    (hgd : o.guard = none) (ho : o.op = .call { callee := .builtin .append, args := #[s, y], argTypes := #[t, t] }) (hs : a.eval s = v) (hy : a.eval y = .slice (some ⟨wr.heap.size, 0, none⟩) 1 1)
    (h : ∀ g cap w', w'.ownsRow base e 1 (.slice (some ⟨g, 0, none⟩) (n + 1) cap) (n + 1) ((xs ++ [x]).map (Value.int .i64)) → Below base wr w' → wpList P ops Q rest (a.put o.dst (.slice (some ⟨g, 0, none⟩) (n + 1) cap)) w') :
    wpList P ops Q (o :: rest) a (wr.alloc (.cells #[.int .i64 x] e)) :=
  list_pushsI hi hz hsize hby s y t ht #[.int .i64 x] [x] rfl (by simp) (by simp) hown hn hbase hgd ho hs hy h
end


section
variable {e e' : Nat} {w w' a : World} {lo hi lo' hi' : Nat} {u v : Value} {n m : Nat} {xs ys : List Int}
/-- A row of bytes stays where ints that lie apart are marked. -/
theorem Own.farI (h : Own e w lo hi v n xs) (hg : w.grownBy w' u.ownBlock) (hu : OwnI e' w lo' hi' u m ys) (hd : hi ≤ lo' ∨ hi' ≤ lo) : Own e w' lo hi v n xs := by
  refine ⟨h.1.kept hg ?_, h.2⟩
  rcases hv : v.ownBlock with _ | k
  · exact .inl rfl
  · right
    intro he
    have h1 := h.2 k hv
    have h2 := (h.1.lt k hv).1
    have h3 := hu.2 k he.symm
    have h4 := (hu.1.lt k he.symm).1
    omega
/-- A row of ints stays where bytes that lie apart are marked. -/
theorem OwnI.farB (h : OwnI e w lo hi v n xs) (hg : w.grownBy w' u.ownBlock) (hu : Own e' w lo' hi' u m ys) (hd : hi ≤ lo' ∨ hi' ≤ lo) : OwnI e w' lo hi v n xs := by
  refine ⟨h.1.kept hg ?_, h.2⟩
  rcases hv : v.ownBlock with _ | k
  · exact .inl rfl
  · right
    intro he
    have h1 := h.2 k hv
    have h2 := (h.1.lt k hv).1
    have h3 := hu.2 k he.symm
    have h4 := (hu.1.lt k he.symm).1
    omega
end

theorem Own.cap {e : Nat} {w : World} {lo hi : Nat} {p : Option Addr} {n c : Nat} {xs : List Int} (h : Own e w lo hi (.slice p n c) n xs) : n ≤ c := by
  rcases h.1.2 with ⟨hv, hn⟩ | ⟨g, cap, cur, hv, _, _, hc, _⟩
  · omega
  · simp only [Value.slice.injEq] at hv
    omega

/-- WHAT THE WALK IS TOLD OF A SLICE OF INTS THAT CAME IN. -/
theorem row_inI {w : World} {a : Option Addr} {len cap : Nat} {zs : List Int}
    (h : (a = none ∧ len = 0 ∧ cap = 0 ∧ zs = []) ∨ ∃ x, a = some x ∧ len ≤ cap ∧ cap ≤ maxLen ∧ zs.length = cap ∧ (∀ i, i < zs.length → w.cell? (x.add i) = some (.int .i64 (zs.getD i 0))) ∧ ∀ n ∈ zs, (Lit.int .i64 n).wf = true) :
    (zs.take len).length = len ∧ IntsIn w a len (zs.take len) ∧ ∀ x ∈ zs.take len, -9223372036854775808 ≤ x ∧ x ≤ 9223372036854775807 := by
  rcases h with ⟨rfl, rfl, rfl, rfl⟩ | ⟨x, rfl, hl, hm, hz, hcell, hwz⟩
  · exact ⟨rfl, fun h => absurd h (Nat.lt_irrefl 0), fun x hx => by simp at hx⟩
  · refine ⟨by simp; omega, fun hn => ?_, fun y hy => ?_⟩
    · obtain ⟨b, off, spot⟩ := x
      have hc := hcell 0 (by omega)
      have hspot : spot = none := by simpa [Addr.add] using World.cell?_spot hc
      subst hspot
      refine ⟨b, off, rfl, fun i hi => ?_⟩
      have := hcell i (by omega)
      rw [Addr.add_lit] at this
      rw [this]
      simp [hi]
    · have := bounds_i64 (hwz y (List.mem_of_mem_take hy))
      omega

section
variable {P : Program} {e : TypeId} {i : TypeInfo} {base n m c : Nat} {wr : World} {v : Value} {p : Option Addr} {xs ys : List Int}
theorem news_of_in {wr : World} {b o m : Nat} {ys : List Int} (hl : ys.length = m) (hc : ∀ i, i < m → wr.cell? ⟨b, o + i, none⟩ = some (.int .u8 (ys.getD i 0))) : ∀ j u, (ys.map (Value.int .u8))[j]? = some u → wr.cell? ((⟨b, o, none⟩ : Addr).add j) = some u := by
  intro j u hj
  have hjl : j < ys.length := by
    rcases Nat.lt_or_ge j ys.length with h | h
    · exact h
    · simp [List.getElem?_eq_none (show (ys.map (Value.int .u8)).length ≤ j by simpa using h)] at hj
  have hplain : (⟨b, o, none⟩ : Addr).add j = ⟨b, o + j, none⟩ := by unfold Addr.add; split <;> simp_all
  rw [hplain, hc j (by omega)]
  simpa [List.getD, List.getElem?_eq_getElem hjl] using hj

/-- 'append(out, b...)' in a plain region: out a row that the call owns, b bytes that lie somewhere, at least one. -/
theorem list_spread {ops : Array Oper} {rest : List Oper} {o : Oper} {a : Act} {Q : Exit → Act → World → Prop} (hi : P.info? e = some i) (hz : i.zero = some (.int .u8 0)) (hsize : i.size = 1) (hby : i.bytes = 1)
    (s y : Operand) (t : TypeId) (ht : P.underlying t = some (.slice e)) (hown : wr.ownsRow base e 1 v n (xs.map (Value.int .u8))) (hin : BytesIn wr p m ys) (hl : ys.length = m) (hm : 0 < m) (hm' : m ≤ 1099511627776)
    (hn : n ≤ 1099511627776) (hbase : base ≤ wr.heap.size)
    (hgd : o.guard = none) (ho : o.op = .call { callee := .builtin .append, args := #[s, y], argTypes := #[t, t] }) (hs : a.eval s = v) (hy : a.eval y = .slice p m c)
    (h : ∀ g cap w', w'.ownsRow base e 1 (.slice (some ⟨g, 0, none⟩) (n + m) cap) (n + m) ((xs ++ ys).map (Value.int .u8)) → wr.grownBy w' v.ownBlock → Below base wr w' → wpList P ops Q rest (a.put o.dst (.slice (some ⟨g, 0, none⟩) (n + m) cap)) w') :
    wpList P ops Q (o :: rest) a wr := by
  obtain ⟨b, of, rfl, hc⟩ := hin hm
  refine wpList_append_lies _ hgd s y t ho base e i (.int .u8 0) 1 1 ht hi hz hsize hby rfl (by decide) v n (xs.map (Value.int .u8)) hs hown ⟨b, of, none⟩ m c (ys.map (Value.int .u8)) hy (by simp [hl]) (news_of_in hl hc) (ints_oneCell _ _) hm (pushs_fit hn hm').1 (pushs_fit hn hm').2 hbase _ rfl ?_
  intro g cap w' h1 h2 _ _
  exact h g cap w' (by simpa using h1) h2 ((Below.refl _ _).grown h2 hbase fun k hk => (hown.lt k hk).1)

theorem step_spread {ops : Array Oper} {o : Oper} {a : Act} {K : Act → World → Prop} {Q : Exit → Act → World → Prop} {E : Prop} (hi : P.info? e = some i) (hz : i.zero = some (.int .u8 0)) (hsize : i.size = 1) (hby : i.bytes = 1)
    (s y : Operand) (t : TypeId) (ht : P.underlying t = some (.slice e)) (hown : wr.ownsRow base e 1 v n (xs.map (Value.int .u8))) (hin : BytesIn wr p m ys) (hl : ys.length = m) (hm : 0 < m) (hm' : m ≤ 1099511627776)
    (hn : n ≤ 1099511627776) (hbase : base ≤ wr.heap.size)
    (hgd : o.guard = none) (ho : o.op = .call { callee := .builtin .append, args := #[s, y], argTypes := #[t, t] }) (hs : a.eval s = v) (hy : a.eval y = .slice p m c)
    (h : ∀ g cap w', w'.ownsRow base e 1 (.slice (some ⟨g, 0, none⟩) (n + m) cap) (n + m) ((xs ++ ys).map (Value.int .u8)) → wr.grownBy w' v.ownBlock → Below base wr w' → K (a.put o.dst (.slice (some ⟨g, 0, none⟩) (n + m) cap)) w') :
    if Region.wanted o (yielded ops a.tmps) = true then Oper.wp P o a wr K Q else E := by
  obtain ⟨b, of, rfl, hc⟩ := hin hm
  refine step_append_lies _ hgd s y t ho base e i (.int .u8 0) 1 1 ht hi hz hsize hby rfl (by decide) v n (xs.map (Value.int .u8)) hs hown ⟨b, of, none⟩ m c (ys.map (Value.int .u8)) hy (by simp [hl]) (news_of_in hl hc) (ints_oneCell _ _) hm (pushs_fit hn hm').1 (pushs_fit hn hm').2 hbase _ rfl ?_
  intro g cap w' h1 h2 _ _
  exact h g cap w' (by simpa using h1) h2 ((Below.refl _ _).grown h2 hbase fun k hk => (hown.lt k hk).1)
end

end Go.Proofs.Ytkkaipeklbhliaa
