/-
  Lists of structs by their fields (flags, texts, numbers, rows of bytes): as arguments, and in memory of one's own whose cells can be told anew. Conditions: each fact's own.
  The laws' own copies of a struct: rows of its own. Conditions: what can be read, as much as a law hands over.
  How much wires and what was sent hold, as the laws reckon. Conditions: what can be read.
  The laws' own copies of lists of wires, of what was sent, of rows. Conditions: what can be read, as much as a law hands over.
  The laws' own comparisons of structs and of lists of them that say the same. Conditions: what can be read.
-/
import Derived.Test.YthfnechcddmjkaaGreatDoorParf04
import Derived.OneCell
namespace Go.Proofs.YthfnechcddmjkaaGreatDoor
open Go.RowKit
set_option maxRecDepth 100000

structure Wn (lo hi : Nat) (w w' : World) : Prop where
  os : w'.os = w.os
  tape : w'.tape = w.tape
  output : w'.output = w.output
  size : w.heap.size ≤ w'.heap.size
  block : ∀ k, k < w.heap.size → (k < lo ∨ hi ≤ k) → w'.heap[k]? = w.heap[k]?
  shy : ∀ a : Addr, a.spot = none → (∃ v, w.cell? a = some v) → w.frozen? a = false → (∃ v, w'.cell? a = some v) ∧ w'.frozen? a = false
theorem Wn.refl (lo hi : Nat) (w : World) : Wn lo hi w w := ⟨rfl, rfl, rfl, Nat.le_refl _, fun _ _ _ => rfl, fun _ _ h k => ⟨h, k⟩⟩
theorem Wn.trans {lo hi : Nat} {a b c : World} (h : Wn lo hi a b) (k : Wn lo hi b c) : Wn lo hi a c :=
  ⟨k.os.trans h.os, k.tape.trans h.tape, k.output.trans h.output, Nat.le_trans h.size k.size, fun q hq hr => (k.block q (Nat.lt_of_lt_of_le hq h.size) hr).trans (h.block q hq hr), fun x hs h1 h2 => k.shy x hs (h.shy x hs h1 h2).1 (h.shy x hs h1 h2).2⟩
theorem Wn.wide {lo hi lo' hi' : Nat} {a b : World} (h : Wn lo hi a b) (h1 : lo' ≤ lo) (h2 : hi ≤ hi') : Wn lo' hi' a b :=
  ⟨h.os, h.tape, h.output, h.size, fun q hq hr => h.block q hq (by omega), h.shy⟩
theorem cell_lt {w : World} {a : Addr} (h : ∃ v, w.cell? a = some v) : a.block < w.heap.size := by
  obtain ⟨v, hv⟩ := h
  exact World.block_lt_of_cell? w a hv
theorem Wn.of_below {lo hi : Nat} {a b : World} (h : Below a.heap.size a b) : Wn lo hi a b :=
  ⟨h.os, h.tape, h.output, h.size, fun q hq _ => h.block q hq, fun x _ h1 h2 => ⟨by rw [h.cell (cell_lt h1)]; exact h1, by rw [h.frozen (cell_lt h1)]; exact h2⟩⟩
theorem Wn.below {lo hi : Nat} {w a b : World} (h : Wn lo hi w a) (k : Below a.heap.size a b) : Wn lo hi w b := h.trans (.of_below k)
theorem Wn.of_set {lo hi : Nat} (w : World) (a : Addr) (v : Value) (h : lo ≤ a.block ∧ a.block < hi) : Wn lo hi w (w.setCell a v) := by
  refine ⟨rfl, rfl, rfl, by simp [World.setCell], fun q _ hr => Below.heap_setCell w a v q (by omega), fun x hx h1 h2 => ⟨?_, by rw [World.frozen?_setCell]; exact h2⟩⟩
  obtain ⟨u, hu⟩ := h1
  by_cases e : a = x
  · subst e
    exact ⟨v, World.cell?_setCell_same w _ _ (by rw [hu])⟩
  · exact ⟨u, by rw [World.cell?_setCell_other _ _ _ _ e]; exact hu⟩
theorem Wn.set {lo hi : Nat} {w w1 : World} (h : Wn lo hi w w1) (a : Addr) (v : Value) (hr : lo ≤ a.block ∧ a.block < hi) : Wn lo hi w (w1.setCell a v) := h.trans (.of_set _ _ _ hr)
theorem Wn.low {a lo hi : Nat} {w0 w w' : World} (h : Wn lo hi w w') (b : Below a w0 w) (ha : a ≤ lo) (hw : a ≤ w.heap.size) : Below a w0 w' :=
  b.trans ⟨h.os, h.tape, h.output, h.size, fun k hk => h.block k (by omega) (.inl (by omega))⟩
theorem Wn.cell {lo hi : Nat} {w w' : World} (h : Wn lo hi w w') {a : Addr} {v : Value} (hc : w.cell? a = some v) (hr : a.block < lo ∨ hi ≤ a.block) : w'.cell? a = some v := by
  rw [← hc]
  exact World.cell?_of_block (w := w) (h.block _ (World.block_lt_of_cell? w a hc) hr)
theorem Cells.pastW {lo hi g : Nat} {w w' : World} {A : Array Value} (h : Cells w g A) (hw : Wn lo hi w w') (hd : g < lo ∨ hi ≤ g) : Cells w' g A := by
  have e := hw.block g h.1 hd
  exact ⟨Nat.lt_of_lt_of_le h.1 hw.size, fun i => ⟨(World.cell?_of_block (w := w) e).trans (h.2 i).1, (World.frozen?_of_block (w := w) e).trans (h.2 i).2⟩⟩
theorem owns_sameW {w w' : World} {base e size n : Nat} {v : Value} {xs : List Value} (h : w.ownsRow base e size v n xs) (hb : ∀ k, v.ownBlock = some k → w'.heap[k]? = w.heap[k]?) : w'.ownsRow base e size v n xs := by
  refine ⟨h.1, ?_⟩
  rcases h.2 with hn | ⟨g, cap, cur, rfl, hbg, hgg, rest⟩
  · exact .inl hn
  · refine .inr ⟨g, cap, cur, rfl, hbg, ?_, rest⟩
    rw [hb g rfl]
    exact hgg
theorem Own.pastW {e lo hi a b n : Nat} {w w' : World} {v : Value} {xs : List Int} (h : Own e w a b v n xs) (hw : Wn lo hi w w') (hd : b ≤ lo ∨ hi ≤ a) : Own e w' a b v n xs :=
  ⟨owns_sameW h.1 (fun k hk => hw.block k (h.1.lt k hk).2 (by have := h.2 k hk; have := (h.1.lt k hk).1; omega)), h.2⟩

def ShB (w : World) (lo hi : Nat) (p : Option Addr) (n : Nat) : Prop :=
  0 < n → ∃ b, p = some ⟨b, 0, none⟩ ∧ lo ≤ b ∧ b < hi ∧ ∀ i, i < n → (∃ v, w.cell? ⟨b, i, none⟩ = some v) ∧ w.frozen? ⟨b, i, none⟩ = false
theorem ShB.shy {w w' : World} {lo hi a b n : Nat} {p : Option Addr} (h : ShB w lo hi p n) (k : Wn a b w w') : ShB w' lo hi p n := fun hn =>
  let ⟨g, e, h1, h2, hc⟩ := h hn
  ⟨g, e, h1, h2, fun i hi => k.shy _ rfl (hc i hi).1 (hc i hi).2⟩
theorem ShB.wide {w : World} {lo hi lo' hi' n : Nat} {p : Option Addr} (h : ShB w lo hi p n) (h1 : lo' ≤ lo) (h2 : hi ≤ hi') : ShB w lo' hi' p n := fun hn =>
  let ⟨g, e, k1, k2, hc⟩ := h hn
  ⟨g, e, Nat.le_trans h1 k1, Nat.lt_of_lt_of_le k2 h2, hc⟩
theorem ShB.of_own {w : World} {lo hi n c : Nat} {p : Option Addr} {xs : List Int} (h : Own 5 w lo hi (.slice p n c) n xs) : ShB w lo hi p n := fun hn => by
  have hl := h.len
  rcases h.1.2 with ⟨_, h0⟩ | ⟨g, cap, cur, hv, hbg, _⟩
  · omega
  · simp only [Value.slice.injEq] at hv
    obtain ⟨rfl, _, rfl⟩ := hv
    refine ⟨g, rfl, hbg, h.2 g rfl, fun i hi => ⟨?_, h.1.frozenAt i⟩⟩
    rw [h.1.cellAt i (by omega)]
    exact ⟨_, List.getElem?_eq_getElem (by rw [List.length_map]; omega)⟩

structure RwA.P (w : World) (lo hi : Nat) (x : RwA) : Prop where
  ok : x.Ok w
  sh : ShB w lo hi x.p x.n
theorem in_past {w w' : World} {lo hi a b n : Nat} {p : Option Addr} {xs : List Int} (h : BytesIn w p n xs) (s : ShB w lo hi p n) (k : Wn a b w w') (hd : hi ≤ a ∨ b ≤ lo) : BytesIn w' p n xs := by
  intro hn
  obtain ⟨g, o, rfl, hc⟩ := h hn
  obtain ⟨g', e, h1, h2, _⟩ := s hn
  simp only [Option.some.injEq, Addr.mk.injEq, and_true] at e
  obtain ⟨rfl, rfl⟩ := e
  exact ⟨g, 0, rfl, fun i hi => k.cell (hc i hi) (by show g < a ∨ b ≤ g; omega)⟩
theorem RwA.P.past {w w' : World} {lo hi a b : Nat} {x : RwA} (h : x.P w lo hi) (k : Wn a b w w') (hd : hi ≤ a ∨ b ≤ lo) : x.P w' lo hi :=
  ⟨⟨h.ok.hn, h.ok.len, in_past h.ok.bytes h.sh k hd, h.ok.byte⟩, h.sh.shy k⟩
theorem RwA.P.on {w w' : World} {lo hi : Nat} {x : RwA} (h : x.P w lo hi) (k : Below w.heap.size w w') : x.P w' lo hi := ⟨h.ok.on k, h.sh.shy (Wn.of_below (lo := 0) (hi := 0) k)⟩
theorem RwA.P.wide {w : World} {lo hi lo' hi' : Nat} {x : RwA} (h : x.P w lo hi) (h1 : lo' ≤ lo) (h2 : hi ≤ hi') : x.P w lo' hi' := ⟨h.ok, h.sh.wide h1 h2⟩
theorem RwA.P.of_own {w : World} {lo hi n c : Nat} {p : Option Addr} {xs : List Int} (h : Own 5 w lo hi (.slice p n c) n xs) (hn : n ≤ 9223372036854775807) (hb : ∀ y ∈ xs, 0 ≤ y ∧ y < 256) : RwA.P w lo hi ⟨p, n, c, xs⟩ := ⟨⟨hn, h.len, h.bytes, hb⟩, .of_own h⟩
theorem RwA.P.lt {w : World} {lo hi : Nat} {x : RwA} (h : x.P w lo hi) (hn : 0 < x.n) : ∃ b, x.p = some ⟨b, 0, none⟩ ∧ lo ≤ b ∧ b < hi := let ⟨b, e, h1, h2, _⟩ := h.sh hn; ⟨b, e, h1, h2⟩

inductive Fd where
  | b (x : Bool)
  | s (x : ByteArray)
  | i (x : Int)
  | r (x : RwA)
inductive Cn where
  | b (x : Bool)
  | s (x : ByteArray)
  | i (x : Int)
  | r (x : List Int)
def Fd.val : Fd → Value
  | .b x => .bool x
  | .s x => .string x
  | .i x => .int .i64 x
  | .r x => .slice x.p x.n x.c
def Fd.con : Fd → Cn
  | .b x => .b x
  | .s x => .s x
  | .i x => .i x
  | .r x => .r x.xs
def Fd.A (w : World) : Fd → Prop
  | .b _ => True
  | .s x => x.size ≤ 9223372036854775807
  | .i x => -9223372036854775808 ≤ x ∧ x ≤ 9223372036854775807
  | .r x => x.Ok w
def Fd.P (w : World) (lo hi : Nat) : Fd → Prop
  | .b _ => True
  | .s x => x.size ≤ 9223372036854775807
  | .i x => -9223372036854775808 ≤ x ∧ x ≤ 9223372036854775807
  | .r x => x.P w lo hi
def Fd.tot : Fd → Nat
  | .s x => x.size
  | .r x => x.n
  | _ => 0
def Fd.cost : Fd → Nat
  | .r x => x.n
  | _ => 1
def Fd.fit : Fd → Prop
  | .r x => x.n ≤ 1048576
  | _ => True
abbrev Rc := List Fd
def Rc.vals (x : Rc) : List Value := x.map Fd.val
def Rc.con (x : Rc) : List Cn := x.map Fd.con
def Rc.tot (x : Rc) : Nat := (x.map Fd.tot).sum
def Rc.cost (x : Rc) : Nat := (x.map Fd.cost).sum
def totF (xs : List Rc) : Nat := (xs.map Rc.tot).sum
def costF (xs : List Rc) : Nat := (xs.map Rc.cost).sum
def flatF (xs : List Rc) : List Value := xs.flatMap Rc.vals
theorem Fd.A.on {w w' : World} {f : Fd} (h : f.A w) (k : Below w.heap.size w w') : f.A w' := by
  cases f with
  | r x => exact RwA.Ok.on h k
  | _ => exact h
theorem Fd.P.past {w w' : World} {lo hi a b : Nat} {f : Fd} (h : f.P w lo hi) (k : Wn a b w w') (hd : hi ≤ a ∨ b ≤ lo) : f.P w' lo hi := by
  cases f with
  | r x => exact RwA.P.past h k hd
  | _ => exact h
theorem Fd.P.wide {w : World} {lo hi lo' hi' : Nat} {f : Fd} (h : f.P w lo hi) (h1 : lo' ≤ lo) (h2 : hi ≤ hi') : f.P w lo' hi' := by
  cases f with
  | r x => exact RwA.P.wide h h1 h2
  | _ => exact h
theorem Fd.P.arg {w : World} {lo hi : Nat} {f : Fd} (h : f.P w lo hi) : f.A w := by
  cases f with
  | r x => exact RwA.P.ok h
  | _ => exact h

structure RecA (w : World) (c : Nat) (Sh : Rc → Prop) (p : Option Addr) (n : Nat) (xs : List Rc) : Prop where
  hn : n ≤ 9223372036854775807
  len : xs.length = n
  lie : 0 < n → ∃ b o, p = some ⟨b, o, none⟩ ∧ ∀ i j v, i < n → (Rc.vals (xs.getD i []))[j]? = some v → w.cell? ⟨b, o + i * c + j, none⟩ = some v
  fld : ∀ x ∈ xs, ∀ f ∈ x, f.A w
  sh : ∀ x ∈ xs, Sh x
theorem RecA.nil (w : World) (c : Nat) (Sh : Rc → Prop) (p : Option Addr) : RecA w c Sh p 0 [] := ⟨by omega, rfl, fun h => absurd h (Nat.lt_irrefl 0), fun x hx => by simp at hx, fun x hx => by simp at hx⟩
theorem RecA.on {w w' : World} {c n : Nat} {Sh : Rc → Prop} {p : Option Addr} {xs : List Rc} (h : RecA w c Sh p n xs) (k : Below w.heap.size w w') : RecA w' c Sh p n xs := by
  refine ⟨h.hn, h.len, fun hn => ?_, fun x hx f hf => (h.fld x hx f hf).on k, h.sh⟩
  obtain ⟨b, o, e, hc⟩ := h.lie hn
  refine ⟨b, o, e, fun i j v hi hv => ?_⟩
  have h1 := hc i j v hi hv
  rw [k.cell (World.block_lt_of_cell? w _ h1)]
  exact h1
theorem getD_memF {l : List Rc} {k : Nat} (h : k < l.length) : l.getD k [] ∈ l := by
  rw [List.getD_eq_getElem?_getD, List.getElem?_eq_getElem h]; exact List.getElem_mem _
theorem take_getDF {l : List Rc} {k : Nat} (h : k < l.length) : l.take (k + 1) = l.take k ++ [l.getD k []] := by
  rw [List.take_add_one, List.getElem?_eq_getElem h]
  simp [List.getD_eq_getElem?_getD, List.getElem?_eq_getElem h]
theorem RecA.at {w : World} {c n : Nat} {Sh : Rc → Prop} {p : Option Addr} {xs : List Rc} (h : RecA w c Sh p n xs) {k : Nat} (hk : k < n) :
    ∃ b o x, p = some ⟨b, o, none⟩ ∧ xs.getD k [] = x ∧ x ∈ xs ∧ (∀ j v, (Rc.vals x)[j]? = some v → w.cell? ⟨b, o + k * c + j, none⟩ = some v) ∧ (∀ f ∈ x, f.A w) ∧ Sh x := by
  obtain ⟨b, o, e, hc⟩ := h.lie (by omega)
  have hm := getD_memF (l := xs) (k := k) (by rw [h.len]; exact hk)
  exact ⟨b, o, _, e, rfl, hm, fun j v hv => hc k j v hk hv, h.fld _ hm, h.sh _ hm⟩

structure RecP (w : World) (lo hi c : Nat) (Sh : Rc → Prop) (p : Option Addr) (n : Nat) (xs : List Rc) : Prop where
  hn : n ≤ 1048576
  len : xs.length = n
  lie : 0 < n → ∃ g, p = some ⟨g, 0, none⟩ ∧ lo ≤ g ∧ g < hi ∧ (∀ i, i < n * c → (∃ v, w.cell? ⟨g, i, none⟩ = some v) ∧ w.frozen? ⟨g, i, none⟩ = false) ∧ (∀ i j v, i < n → (Rc.vals (xs.getD i []))[j]? = some v → w.cell? ⟨g, i * c + j, none⟩ = some v) ∧ ∀ x ∈ xs, ∀ r, Fd.r r ∈ x → 0 < r.n → ∃ b, r.p = some ⟨b, 0, none⟩ ∧ b ≠ g
  fld : ∀ x ∈ xs, ∀ f ∈ x, f.P w lo hi
  sh : ∀ x ∈ xs, Sh x
theorem RecP.arg {w : World} {lo hi c n : Nat} {Sh : Rc → Prop} {p : Option Addr} {xs : List Rc} (h : RecP w lo hi c Sh p n xs) : RecA w c Sh p n xs :=
  ⟨by have := h.hn; omega, h.len, fun hn => let ⟨g, e, _, _, _, hc, _⟩ := h.lie hn; ⟨g, 0, e, fun i j v hi hv => by rw [Nat.zero_add]; exact hc i j v hi hv⟩, fun x hx f hf => (h.fld x hx f hf).arg, h.sh⟩
theorem RecP.past {w w' : World} {lo hi a b c n : Nat} {Sh : Rc → Prop} {p : Option Addr} {xs : List Rc} (h : RecP w lo hi c Sh p n xs) (k : Wn a b w w') (hd : hi ≤ a ∨ b ≤ lo) : RecP w' lo hi c Sh p n xs := by
  refine ⟨h.hn, h.len, fun hn => ?_, fun x hx f hf => (h.fld x hx f hf).past k hd, h.sh⟩
  obtain ⟨g, e, h1, h2, hs, hc, hr⟩ := h.lie hn
  exact ⟨g, e, h1, h2, fun i hi => k.shy _ rfl (hs i hi).1 (hs i hi).2, fun i j v hi hv => k.cell (hc i j v hi hv) (by show g < a ∨ b ≤ g; omega), hr⟩
theorem RecP.wide {w : World} {lo hi lo' hi' c n : Nat} {Sh : Rc → Prop} {p : Option Addr} {xs : List Rc} (h : RecP w lo hi c Sh p n xs) (h1 : lo' ≤ lo) (h2 : hi ≤ hi') : RecP w lo' hi' c Sh p n xs :=
  ⟨h.hn, h.len, fun hn => let ⟨g, e, k1, k2, r⟩ := h.lie hn; ⟨g, e, Nat.le_trans h1 k1, Nat.lt_of_lt_of_le k2 h2, r⟩, fun x hx f hf => (h.fld x hx f hf).wide h1 h2, h.sh⟩

theorem totF_step (xs : List Rc) (k : Nat) (h : k < xs.length) : totF (xs.take (k + 1)) = totF (xs.take k) + Rc.tot (xs.getD k []) := by
  unfold totF
  rw [take_getDF h, List.map_append, List.sum_append]
  simp
theorem totF_le (xs : List Rc) (k : Nat) : totF (xs.take k) ≤ totF xs := by
  unfold totF
  have e := congrArg (fun l => (l.map Rc.tot).sum) (List.take_append_drop k xs)
  simp only [List.map_append, List.sum_append] at e
  omega
theorem totF_mem (xs : List Rc) (x : Rc) (h : x ∈ xs) : Rc.tot x ≤ totF xs := by
  induction xs with
  | nil => simp at h
  | cons y r ih =>
    have e : totF (y :: r) = Rc.tot y + totF r := by simp [totF]
    rcases List.mem_cons.1 h with rfl | h
    · omega
    · have := ih h
      omega
theorem Rc.tot_mem (x : Rc) (f : Fd) (h : f ∈ x) : f.tot ≤ Rc.tot x := by
  induction x with
  | nil => simp at h
  | cons y r ih =>
    have e : Rc.tot (y :: r) = y.tot + Rc.tot r := by simp [Rc.tot]
    rcases List.mem_cons.1 h with rfl | h
    · omega
    · have := ih h
      omega
theorem fit_of {xs : List Rc} {T : Nat} (h : totF xs ≤ T) (hT : T ≤ 1048576) : ∀ x ∈ xs, ∀ f ∈ x, f.fit := fun x hx f hf => by
  have h1 := totF_mem xs x hx
  have h2 := Rc.tot_mem x f hf
  cases f with
  | r y => exact (show y.n ≤ 1048576 by simp only [Fd.tot] at h2; omega)
  | _ => trivial
theorem costF_step (xs : List Rc) (k : Nat) (h : k < xs.length) : costF (xs.take (k + 1)) = costF (xs.take k) + Rc.cost (xs.getD k []) := by
  unfold costF
  rw [take_getDF h, List.map_append, List.sum_append]
  simp
theorem costF_le (xs : List Rc) (k : Nat) : costF (xs.take k) ≤ costF xs := by
  unfold costF
  have e := congrArg (fun l => (l.map Rc.cost).sum) (List.take_append_drop k xs)
  simp only [List.map_append, List.sum_append] at e
  omega
theorem Rc.cost_le (x : Rc) : Rc.cost x ≤ Rc.tot x + x.length := by
  induction x with
  | nil => simp [Rc.cost, Rc.tot]
  | cons y r ih =>
    have e : Rc.tot (y :: r) = y.tot + Rc.tot r := by simp [Rc.tot]
    have e' : Rc.cost (y :: r) = y.cost + Rc.cost r := by simp [Rc.cost]
    have h : y.cost ≤ y.tot + 1 := by cases y <;> simp [Fd.cost, Fd.tot]
    rw [e, e', List.length_cons]
    omega
theorem costF_tot (xs : List Rc) (c : Nat) (h : ∀ x ∈ xs, x.length = c) : costF xs ≤ totF xs + xs.length * c := by
  induction xs with
  | nil => simp [costF, totF]
  | cons y r ih =>
    have e : totF (y :: r) = Rc.tot y + totF r := by simp [totF]
    have e' : costF (y :: r) = Rc.cost y + costF r := by simp [costF]
    have h1 := Rc.cost_le y
    have h2 := h y (List.mem_cons_self ..)
    have h3 := ih fun x hx => h x (List.mem_cons_of_mem _ hx)
    rw [e, e', List.length_cons, Nat.add_mul]
    omega
theorem con_tot {x y : Rc} (h : Rc.con x = Rc.con y) (hx : ∀ f ∈ x, ∀ r, f = Fd.r r → r.xs.length = r.n) (hy : ∀ f ∈ y, ∀ r, f = Fd.r r → r.xs.length = r.n) : Rc.tot x = Rc.tot y := by
  induction x generalizing y with
  | nil => cases y with
    | nil => rfl
    | cons b s => simp [Rc.con] at h
  | cons a r ih => cases y with
    | nil => simp [Rc.con] at h
    | cons b s =>
      simp only [Rc.con, List.map_cons, List.cons.injEq] at h
      have e1 : Rc.tot (a :: r) = a.tot + Rc.tot r := by simp [Rc.tot]
      have e2 : Rc.tot (b :: s) = b.tot + Rc.tot s := by simp [Rc.tot]
      have e3 := ih (y := s) h.2 (fun f hf => hx f (List.mem_cons_of_mem _ hf)) (fun f hf => hy f (List.mem_cons_of_mem _ hf))
      have e4 : a.tot = b.tot := by
        have h1 := h.1
        have ha := hx a (List.mem_cons_self ..)
        have hb := hy b (List.mem_cons_self ..)
        cases a <;> cases b <;> simp only [Fd.con, Cn.s.injEq, Cn.r.injEq, reduceCtorEq] at h1 <;> simp only [Fd.tot]
        · rw [h1]
        · rw [← ha _ rfl, ← hb _ rfl, h1]
      omega

theorem flatF_append (a b : List Rc) : flatF (a ++ b) = flatF a ++ flatF b := by simp [flatF]
theorem flatF_cons (x : Rc) (r : List Rc) : flatF (x :: r) = Rc.vals x ++ flatF r := by simp [flatF]
theorem flatF_length (xs : List Rc) (c : Nat) (h : ∀ x ∈ xs, x.length = c) : (flatF xs).length = xs.length * c := by
  induction xs with
  | nil => simp [flatF]
  | cons y r ih =>
    have h2 := h y (List.mem_cons_self ..)
    rw [flatF_cons, List.length_append, ih fun x hx => h x (List.mem_cons_of_mem _ hx), List.length_cons, Nat.add_mul, Rc.vals, List.length_map, h2]
    omega
theorem flatF_at (xs : List Rc) (c : Nat) (h : ∀ x ∈ xs, x.length = c) (i j : Nat) (hj : j < c) (hi : i < xs.length) : (flatF xs)[i * c + j]? = (Rc.vals (xs.getD i []))[j]? := by
  induction xs generalizing i with
  | nil => simp at hi
  | cons y r ih =>
    have h2 := h y (List.mem_cons_self ..)
    have hl : (Rc.vals y).length = c := by rw [Rc.vals, List.length_map, h2]
    rw [flatF_cons]
    cases i with
    | zero => rw [List.getElem?_append_left (by omega)]; simp
    | succ i =>
      rw [List.getElem?_append_right (by rw [hl, Nat.add_mul]; omega), hl, show (i + 1) * c + j - c = i * c + j by rw [Nat.add_mul]; omega, ih (fun x hx => h x (List.mem_cons_of_mem _ hx)) i (by simpa using hi)]
      simp
theorem set_behind (a l : List Value) (m j : Nat) (v : Value) (h : a.length = m) : (a ++ l).set (m + j) v = a ++ l.set j v := by
  rw [List.set_append_right _ _ (by omega), show m + j - a.length = j by omega]

end Go.Proofs.YthfnechcddmjkaaGreatDoor

namespace Go.Proofs.YthfnechcddmjkaaGreatDoor
open Go.RowKit
set_option maxRecDepth 100000

set_option maxHeartbeats 4000000 in
theorem toWire_own (tp : Bool) (s : ByteArray) (t d : Int) (pa : Option Addr) (na ca : Nat) (xsa : List Int) (pb : Option Addr) (nb cb : Nat) (xsb : List Int) (w : World) (oka : RwA.Ok w ⟨pa, na, ca, xsa⟩) (fa : na ≤ 1048576) (okb : RwA.Ok w ⟨pb, nb, cb, xsb⟩) (fb : nb ≤ 1048576) : Calls Tryz.prog 84 #[.agg #[.bool tp, .string s, .int .i64 t, .int .i64 d, .slice pa na ca, .slice pb nb cb]] w fun z w' => ∃ qa da qb db, z = .returned (.agg #[.bool tp, .string s, .int .i64 t, .int .i64 d, .slice qa na da, .slice qb nb db]) ∧ RwA.P w' w.heap.size w'.heap.size ⟨qa, na, da, xsa⟩ ∧ RwA.P w' w.heap.size w'.heap.size ⟨qb, nb, db, xsb⟩ ∧ Below w.heap.size w w' := by
  have kA : ∀ o1 o2 o3, Below w.heap.size w (((w.alloc o1).alloc o2).alloc o3) := fun o1 o2 o3 => made_below _ _ (made_below _ _ (made_below _ _ (Below.refl _ _)))
  have sz : ∀ (W : World) o, (W.alloc o).heap.size = W.heap.size + 1 := fun W o => by simp
  go_enter Tryz.func84, Tryz.ntmps84
  go_wp2_with (fail)
  refine (toItem_own s t d pa na ca xsa _ fa oka.len (in_below oka.bytes (kA _ _ _))).mono ?_
  rintro z w1 ⟨qa, da, rfl, ra, b1⟩
  have D0 := (Cells.made w _ _).on (made_below _ _ (made_below _ _ b1))
  have D1 := (Cells.made (w.alloc _) _ _).on (made_below _ _ b1)
  have D2 := (Cells.made ((w.alloc _).alloc _) _ _).on b1
  have k1 := made_below _ _ (made_below _ _ (made_below _ _ b1))
  have y1 := b1.size
  rw [sz] at D1
  rw [sz, sz] at D2
  rw [sz, sz, sz] at y1
  have Pa := RwA.P.of_own ra oka.hn oka.byte
  rw [sz, sz, sz] at Pa
  clear b1
  obtain ⟨B, hB⟩ : ∃ B, w.heap.size + 1 + 1 = B := ⟨_, rfl⟩
  obtain ⟨B1, hB1⟩ : ∃ B1, w.heap.size + 1 = B1 := ⟨_, rfl⟩
  obtain ⟨B0, hB0⟩ : ∃ B0, w.heap.size = B0 := ⟨_, rfl⟩
  rw [hB] at D2 y1 Pa ⊢
  rw [hB1] at D1 ⊢
  rw [hB0] at D0 k1 ⊢
  have g0 : B0 < B1 := by omega
  have g1 : B1 < B := by omega
  replace hB0 : Hid (w.heap.size = B0) := hB0
  clear hB hB1 kA sz
  have c2_0 : w1.cell? ⟨B, 1, none⟩ = some (.string ByteArray.empty) := (D2.2 1).1
  have z2_0 := (D2.2 1).2
  have c2_1 : (w1.setCell ⟨B, 1, none⟩ (.string s)).cell? ⟨B, 2, none⟩ = some (.int .i64 0) := ((D2.set 1 (by simp) (.string s)).2 2).1
  have z2_1 := ((D2.set 1 (by simp) (.string s)).2 2).2
  have c2_2 : ((w1.setCell ⟨B, 1, none⟩ (.string s)).setCell ⟨B, 2, none⟩ (.int .i64 t)).cell? ⟨B, 3, none⟩ = some (.int .i64 0) := (((D2.set 1 (by simp) (.string s)).set 2 (by simp) (.int .i64 t)).2 3).1
  have z2_2 := (((D2.set 1 (by simp) (.string s)).set 2 (by simp) (.int .i64 t)).2 3).2
  have c2_3 : (((w1.setCell ⟨B, 1, none⟩ (.string s)).setCell ⟨B, 2, none⟩ (.int .i64 t)).setCell ⟨B, 3, none⟩ (.int .i64 d)).cell? ⟨B, 4, none⟩ = some (.slice none 0 0) := ((((D2.set 1 (by simp) (.string s)).set 2 (by simp) (.int .i64 t)).set 3 (by simp) (.int .i64 d)).2 4).1
  have z2_3 := ((((D2.set 1 (by simp) (.string s)).set 2 (by simp) (.int .i64 t)).set 3 (by simp) (.int .i64 d)).2 4).2
  have k2 := ((((k1).setCell (p := ⟨B, 1, none⟩) (by show B0 ≤ B; omega) (.string s)).setCell (p := ⟨B, 2, none⟩) (by show B0 ≤ B; omega) (.int .i64 t)).setCell (p := ⟨B, 3, none⟩) (by show B0 ≤ B; omega) (.int .i64 d)).setCell (p := ⟨B, 4, none⟩) (by show B0 ≤ B; omega) (.slice qa na da)
  have E2_2 := ((((D2).set 1 (by simp) (.string s)).set 2 (by simp) (.int .i64 t)).set 3 (by simp) (.int .i64 d)).set 4 (by simp) (.slice qa na da)
  have n2 : Wn B (B + 1) w1 ((((w1.setCell ⟨B, 1, none⟩ (.string s)).setCell ⟨B, 2, none⟩ (.int .i64 t)).setCell ⟨B, 3, none⟩ (.int .i64 d)).setCell ⟨B, 4, none⟩ (.slice qa na da)) := (((((Wn.refl B (B + 1) w1)).set ⟨B, 1, none⟩ (.string s) ⟨Nat.le_refl _, Nat.lt_succ_self _⟩).set ⟨B, 2, none⟩ (.int .i64 t) ⟨Nat.le_refl _, Nat.lt_succ_self _⟩).set ⟨B, 3, none⟩ (.int .i64 d) ⟨Nat.le_refl _, Nat.lt_succ_self _⟩).set ⟨B, 4, none⟩ (.slice qa na da) ⟨Nat.le_refl _, Nat.lt_succ_self _⟩
  replace D0 := D0.pastW n2 (by omega)
  replace D1 := D1.pastW n2 (by omega)
  obtain ⟨w2, hw2⟩ : ∃ X, X = ((((w1.setCell ⟨B, 1, none⟩ (.string s)).setCell ⟨B, 2, none⟩ (.int .i64 t)).setCell ⟨B, 3, none⟩ (.int .i64 d)).setCell ⟨B, 4, none⟩ (.slice qa na da)) := ⟨_, rfl⟩
  rw [← hw2] at k2 E2_2 n2 D0 D1
  replace hw2 : Hid (((((w1.setCell ⟨B, 1, none⟩ (.string s)).setCell ⟨B, 2, none⟩ (.int .i64 t)).setCell ⟨B, 3, none⟩ (.int .i64 d)).setCell ⟨B, 4, none⟩ (.slice qa na da)) = w2) := hw2.symm
  replace Pa := Pa.past n2 (by omega)
  have y2 := n2.size
  clear n2 D2
  have D2 := E2_2
  clear E2_2
  clear k1
  have a3 : w2.cell? ⟨B0, 5, none⟩ = some (.slice pb nb cb) := (D0.2 5).1
  go_wp2_with (first | rw [hw2.out])
  clear c2_0 z2_0 c2_1 z2_1 c2_2 z2_2 c2_3 z2_3 a3 hw2
  have kw4 : Below w.heap.size w w2 := by have q := k2; rw [← hB0.out] at q; exact q
  refine (toByteS_own pb nb cb xsb _ fb okb.len (in_below okb.bytes kw4)).mono ?_
  rintro z w3 ⟨qb, db, rfl, rb, b4⟩
  have k4 := below_on kw4 b4
  rw [hB0.out] at k4
  replace D0 := D0.on b4
  replace D1 := D1.on b4
  replace D2 := D2.on b4
  have y4 := b4.size
  clear kw4
  replace Pa := Pa.past (Wn.of_below (lo := 0) (hi := 0) b4) (Or.inr (Nat.zero_le _))
  have Pb := RwA.P.of_own rb okb.hn okb.byte
  clear k2 b4
  have c5_0 : w3.cell? ⟨B, 5, none⟩ = some (.slice none 0 0) := (D2.2 5).1
  have z5_0 := (D2.2 5).2
  have k5 := (k4).setCell (p := ⟨B, 5, none⟩) (by show B0 ≤ B; omega) (.slice qb nb db)
  have E2_5 := (D2).set 5 (by simp) (.slice qb nb db)
  have n5 : Wn B (B + 1) w3 (w3.setCell ⟨B, 5, none⟩ (.slice qb nb db)) := ((Wn.refl B (B + 1) w3)).set ⟨B, 5, none⟩ (.slice qb nb db) ⟨Nat.le_refl _, Nat.lt_succ_self _⟩
  replace D0 := D0.pastW n5 (by omega)
  replace D1 := D1.pastW n5 (by omega)
  obtain ⟨w4, hw5⟩ : ∃ X, X = (w3.setCell ⟨B, 5, none⟩ (.slice qb nb db)) := ⟨_, rfl⟩
  rw [← hw5] at k5 E2_5 n5 D0 D1
  replace hw5 : Hid ((w3.setCell ⟨B, 5, none⟩ (.slice qb nb db)) = w4) := hw5.symm
  replace Pa := Pa.past n5 (by omega)
  replace Pb := Pb.past n5 (by omega)
  have y5 := n5.size
  clear n5 D2
  have D2 := E2_5
  clear E2_5
  clear k4
  have m0 : w4.cell? ⟨B, 0, none⟩ = some (.bool tp) := (D2.2 0).1
  have q0 : w4.cell? ⟨B1, 0, none⟩ = some (.bool false) := (D1.2 0).1
  have x0 := (D1.2 0).2
  have m1 : w4.cell? ⟨B, 1, none⟩ = some (.string s) := (D2.2 1).1
  have q1 : (w4.setCell ⟨B1, 0, none⟩ (.bool tp)).cell? ⟨B1, 1, none⟩ = some (.string ByteArray.empty) := ((D1.set 0 (by simp) (.bool tp)).2 1).1
  have x1 := ((D1.set 0 (by simp) (.bool tp)).2 1).2
  have m2 : w4.cell? ⟨B, 2, none⟩ = some (.int .i64 t) := (D2.2 2).1
  have q2 : ((w4.setCell ⟨B1, 0, none⟩ (.bool tp)).setCell ⟨B1, 1, none⟩ (.string s)).cell? ⟨B1, 2, none⟩ = some (.int .i64 0) := (((D1.set 0 (by simp) (.bool tp)).set 1 (by simp) (.string s)).2 2).1
  have x2 := (((D1.set 0 (by simp) (.bool tp)).set 1 (by simp) (.string s)).2 2).2
  have m3 : w4.cell? ⟨B, 3, none⟩ = some (.int .i64 d) := (D2.2 3).1
  have q3 : (((w4.setCell ⟨B1, 0, none⟩ (.bool tp)).setCell ⟨B1, 1, none⟩ (.string s)).setCell ⟨B1, 2, none⟩ (.int .i64 t)).cell? ⟨B1, 3, none⟩ = some (.int .i64 0) := ((((D1.set 0 (by simp) (.bool tp)).set 1 (by simp) (.string s)).set 2 (by simp) (.int .i64 t)).2 3).1
  have x3 := ((((D1.set 0 (by simp) (.bool tp)).set 1 (by simp) (.string s)).set 2 (by simp) (.int .i64 t)).2 3).2
  have m4 : w4.cell? ⟨B, 4, none⟩ = some (.slice qa na da) := (D2.2 4).1
  have q4 : ((((w4.setCell ⟨B1, 0, none⟩ (.bool tp)).setCell ⟨B1, 1, none⟩ (.string s)).setCell ⟨B1, 2, none⟩ (.int .i64 t)).setCell ⟨B1, 3, none⟩ (.int .i64 d)).cell? ⟨B1, 4, none⟩ = some (.slice none 0 0) := (((((D1.set 0 (by simp) (.bool tp)).set 1 (by simp) (.string s)).set 2 (by simp) (.int .i64 t)).set 3 (by simp) (.int .i64 d)).2 4).1
  have x4 := (((((D1.set 0 (by simp) (.bool tp)).set 1 (by simp) (.string s)).set 2 (by simp) (.int .i64 t)).set 3 (by simp) (.int .i64 d)).2 4).2
  have m5 : w4.cell? ⟨B, 5, none⟩ = some (.slice qb nb db) := (D2.2 5).1
  have q5 : (((((w4.setCell ⟨B1, 0, none⟩ (.bool tp)).setCell ⟨B1, 1, none⟩ (.string s)).setCell ⟨B1, 2, none⟩ (.int .i64 t)).setCell ⟨B1, 3, none⟩ (.int .i64 d)).setCell ⟨B1, 4, none⟩ (.slice qa na da)).cell? ⟨B1, 5, none⟩ = some (.slice none 0 0) := ((((((D1.set 0 (by simp) (.bool tp)).set 1 (by simp) (.string s)).set 2 (by simp) (.int .i64 t)).set 3 (by simp) (.int .i64 d)).set 4 (by simp) (.slice qa na da)).2 5).1
  have x5 := ((((((D1.set 0 (by simp) (.bool tp)).set 1 (by simp) (.string s)).set 2 (by simp) (.int .i64 t)).set 3 (by simp) (.int .i64 d)).set 4 (by simp) (.slice qa na da)).2 5).2
  have k6 := ((((((k5).setCell (p := ⟨B1, 0, none⟩) (by show B0 ≤ B1; omega) (.bool tp)).setCell (p := ⟨B1, 1, none⟩) (by show B0 ≤ B1; omega) (.string s)).setCell (p := ⟨B1, 2, none⟩) (by show B0 ≤ B1; omega) (.int .i64 t)).setCell (p := ⟨B1, 3, none⟩) (by show B0 ≤ B1; omega) (.int .i64 d)).setCell (p := ⟨B1, 4, none⟩) (by show B0 ≤ B1; omega) (.slice qa na da)).setCell (p := ⟨B1, 5, none⟩) (by show B0 ≤ B1; omega) (.slice qb nb db)
  have E2_6 := ((((((D1).set 0 (by simp) (.bool tp)).set 1 (by simp) (.string s)).set 2 (by simp) (.int .i64 t)).set 3 (by simp) (.int .i64 d)).set 4 (by simp) (.slice qa na da)).set 5 (by simp) (.slice qb nb db)
  have n6 : Wn B1 (B1 + 1) w4 ((((((w4.setCell ⟨B1, 0, none⟩ (.bool tp)).setCell ⟨B1, 1, none⟩ (.string s)).setCell ⟨B1, 2, none⟩ (.int .i64 t)).setCell ⟨B1, 3, none⟩ (.int .i64 d)).setCell ⟨B1, 4, none⟩ (.slice qa na da)).setCell ⟨B1, 5, none⟩ (.slice qb nb db)) := (((((((Wn.refl B1 (B1 + 1) w4)).set ⟨B1, 0, none⟩ (.bool tp) ⟨Nat.le_refl _, Nat.lt_succ_self _⟩).set ⟨B1, 1, none⟩ (.string s) ⟨Nat.le_refl _, Nat.lt_succ_self _⟩).set ⟨B1, 2, none⟩ (.int .i64 t) ⟨Nat.le_refl _, Nat.lt_succ_self _⟩).set ⟨B1, 3, none⟩ (.int .i64 d) ⟨Nat.le_refl _, Nat.lt_succ_self _⟩).set ⟨B1, 4, none⟩ (.slice qa na da) ⟨Nat.le_refl _, Nat.lt_succ_self _⟩).set ⟨B1, 5, none⟩ (.slice qb nb db) ⟨Nat.le_refl _, Nat.lt_succ_self _⟩
  obtain ⟨w5, hw6⟩ : ∃ X, X = ((((((w4.setCell ⟨B1, 0, none⟩ (.bool tp)).setCell ⟨B1, 1, none⟩ (.string s)).setCell ⟨B1, 2, none⟩ (.int .i64 t)).setCell ⟨B1, 3, none⟩ (.int .i64 d)).setCell ⟨B1, 4, none⟩ (.slice qa na da)).setCell ⟨B1, 5, none⟩ (.slice qb nb db)) := ⟨_, rfl⟩
  rw [← hw6] at k6 E2_6 n6
  replace hw6 : Hid (((((((w4.setCell ⟨B1, 0, none⟩ (.bool tp)).setCell ⟨B1, 1, none⟩ (.string s)).setCell ⟨B1, 2, none⟩ (.int .i64 t)).setCell ⟨B1, 3, none⟩ (.int .i64 d)).setCell ⟨B1, 4, none⟩ (.slice qa na da)).setCell ⟨B1, 5, none⟩ (.slice qb nb db)) = w5) := hw6.symm
  replace Pa := Pa.past n6 (by omega)
  replace Pb := Pb.past n6 (by omega)
  have y6 := n6.size
  clear n6 D1
  have D1 := E2_6
  clear E2_6
  clear k5
  have u0 : w5.cell? ⟨B1, 0, none⟩ = some (.bool tp) := (D1.2 0).1
  have u1 : w5.cell? ⟨B1, 1, none⟩ = some (.string s) := (D1.2 1).1
  have u2 : w5.cell? ⟨B1, 2, none⟩ = some (.int .i64 t) := (D1.2 2).1
  have u3 : w5.cell? ⟨B1, 3, none⟩ = some (.int .i64 d) := (D1.2 3).1
  have u4 : w5.cell? ⟨B1, 4, none⟩ = some (.slice qa na da) := (D1.2 4).1
  have u5 : w5.cell? ⟨B1, 5, none⟩ = some (.slice qb nb db) := (D1.2 5).1
  clear D1 D2 D0
  go_wp2_with (first | rw [hw5.out] | rw [hw6.out])
  clear c5_0 z5_0 m0 q0 x0 m1 q1 x1 m2 q2 x2 m3 q3 x3 m4 q4 x4 m5 q5 x5 hw5 hw6
  rw [← hB0.out] at k6 g0
  refine bodyPost_ret (v := .agg #[.bool tp, .string s, .int .i64 t, .int .i64 d, .slice qa na da, .slice qb nb db]) ?_ rfl ⟨qa, da, qb, db, rfl, Pa.wide (by omega) (by omega), Pb.wide (by omega) (by omega), k6⟩
  simp only [results, Tryz.f84]
  go_simp

set_option maxHeartbeats 4000000 in
theorem toSent_own (s : ByteArray) (t : Int) (pa : Option Addr) (na ca : Nat) (xsa : List Int) (pb : Option Addr) (nb cb : Nat) (xsb : List Int) (w : World) (oka : RwA.Ok w ⟨pa, na, ca, xsa⟩) (fa : na ≤ 1048576) (okb : RwA.Ok w ⟨pb, nb, cb, xsb⟩) (fb : nb ≤ 1048576) : Calls Tryz.prog 85 #[.agg #[.string s, .int .i64 t, .slice pa na ca, .slice pb nb cb]] w fun z w' => ∃ qa da qb db, z = .returned (.agg #[.string s, .int .i64 t, .slice qa na da, .slice qb nb db]) ∧ RwA.P w' w.heap.size w'.heap.size ⟨qa, na, da, xsa⟩ ∧ RwA.P w' w.heap.size w'.heap.size ⟨qb, nb, db, xsb⟩ ∧ Below w.heap.size w w' := by
  have kA : ∀ o1 o2 o3, Below w.heap.size w (((w.alloc o1).alloc o2).alloc o3) := fun o1 o2 o3 => made_below _ _ (made_below _ _ (made_below _ _ (Below.refl _ _)))
  have sz : ∀ (W : World) o, (W.alloc o).heap.size = W.heap.size + 1 := fun W o => by simp
  go_enter Tryz.func85, Tryz.ntmps85
  go_wp2_with (fail)
  refine (toByteS_own pa na ca xsa _ fa oka.len (in_below oka.bytes (kA _ _ _))).mono ?_
  rintro z w1 ⟨qa, da, rfl, ra, b1⟩
  have D0 := (Cells.made w _ _).on (made_below _ _ (made_below _ _ b1))
  have D1 := (Cells.made (w.alloc _) _ _).on (made_below _ _ b1)
  have D2 := (Cells.made ((w.alloc _).alloc _) _ _).on b1
  have k1 := made_below _ _ (made_below _ _ (made_below _ _ b1))
  have y1 := b1.size
  rw [sz] at D1
  rw [sz, sz] at D2
  rw [sz, sz, sz] at y1
  have Pa := RwA.P.of_own ra oka.hn oka.byte
  rw [sz, sz, sz] at Pa
  clear b1
  obtain ⟨B, hB⟩ : ∃ B, w.heap.size + 1 + 1 = B := ⟨_, rfl⟩
  obtain ⟨B1, hB1⟩ : ∃ B1, w.heap.size + 1 = B1 := ⟨_, rfl⟩
  obtain ⟨B0, hB0⟩ : ∃ B0, w.heap.size = B0 := ⟨_, rfl⟩
  rw [hB] at D2 y1 Pa ⊢
  rw [hB1] at D1 ⊢
  rw [hB0] at D0 k1 ⊢
  have g0 : B0 < B1 := by omega
  have g1 : B1 < B := by omega
  replace hB0 : Hid (w.heap.size = B0) := hB0
  clear hB hB1 kA sz
  have c2_0 : w1.cell? ⟨B, 2, none⟩ = some (.slice none 0 0) := (D2.2 2).1
  have z2_0 := (D2.2 2).2
  have k2 := (k1).setCell (p := ⟨B, 2, none⟩) (by show B0 ≤ B; omega) (.slice qa na da)
  have E2_2 := (D2).set 2 (by simp) (.slice qa na da)
  have n2 : Wn B (B + 1) w1 (w1.setCell ⟨B, 2, none⟩ (.slice qa na da)) := ((Wn.refl B (B + 1) w1)).set ⟨B, 2, none⟩ (.slice qa na da) ⟨Nat.le_refl _, Nat.lt_succ_self _⟩
  replace D0 := D0.pastW n2 (by omega)
  replace D1 := D1.pastW n2 (by omega)
  obtain ⟨w2, hw2⟩ : ∃ X, X = (w1.setCell ⟨B, 2, none⟩ (.slice qa na da)) := ⟨_, rfl⟩
  rw [← hw2] at k2 E2_2 n2 D0 D1
  replace hw2 : Hid ((w1.setCell ⟨B, 2, none⟩ (.slice qa na da)) = w2) := hw2.symm
  replace Pa := Pa.past n2 (by omega)
  have y2 := n2.size
  clear n2 D2
  have D2 := E2_2
  clear E2_2
  clear k1
  have a3 : w2.cell? ⟨B0, 3, none⟩ = some (.slice pb nb cb) := (D0.2 3).1
  go_wp2_with (first | rw [hw2.out])
  clear c2_0 z2_0 a3 hw2
  have kw4 : Below w.heap.size w w2 := by have q := k2; rw [← hB0.out] at q; exact q
  refine (toByteS_own pb nb cb xsb _ fb okb.len (in_below okb.bytes kw4)).mono ?_
  rintro z w3 ⟨qb, db, rfl, rb, b4⟩
  have k4 := below_on kw4 b4
  rw [hB0.out] at k4
  replace D0 := D0.on b4
  replace D1 := D1.on b4
  replace D2 := D2.on b4
  have y4 := b4.size
  clear kw4
  replace Pa := Pa.past (Wn.of_below (lo := 0) (hi := 0) b4) (Or.inr (Nat.zero_le _))
  have Pb := RwA.P.of_own rb okb.hn okb.byte
  clear k2 b4
  have c5_0 : w3.cell? ⟨B, 3, none⟩ = some (.slice none 0 0) := (D2.2 3).1
  have z5_0 := (D2.2 3).2
  have k5 := (k4).setCell (p := ⟨B, 3, none⟩) (by show B0 ≤ B; omega) (.slice qb nb db)
  have E2_5 := (D2).set 3 (by simp) (.slice qb nb db)
  have n5 : Wn B (B + 1) w3 (w3.setCell ⟨B, 3, none⟩ (.slice qb nb db)) := ((Wn.refl B (B + 1) w3)).set ⟨B, 3, none⟩ (.slice qb nb db) ⟨Nat.le_refl _, Nat.lt_succ_self _⟩
  replace D0 := D0.pastW n5 (by omega)
  replace D1 := D1.pastW n5 (by omega)
  obtain ⟨w4, hw5⟩ : ∃ X, X = (w3.setCell ⟨B, 3, none⟩ (.slice qb nb db)) := ⟨_, rfl⟩
  rw [← hw5] at k5 E2_5 n5 D0 D1
  replace hw5 : Hid ((w3.setCell ⟨B, 3, none⟩ (.slice qb nb db)) = w4) := hw5.symm
  replace Pa := Pa.past n5 (by omega)
  replace Pb := Pb.past n5 (by omega)
  have y5 := n5.size
  clear n5 D2
  have D2 := E2_5
  clear E2_5
  clear k4
  have m0 : w4.cell? ⟨B, 0, none⟩ = some (.string s) := (D2.2 0).1
  have q0 : w4.cell? ⟨B1, 0, none⟩ = some (.string ByteArray.empty) := (D1.2 0).1
  have x0 := (D1.2 0).2
  have m1 : w4.cell? ⟨B, 1, none⟩ = some (.int .i64 t) := (D2.2 1).1
  have q1 : (w4.setCell ⟨B1, 0, none⟩ (.string s)).cell? ⟨B1, 1, none⟩ = some (.int .i64 0) := ((D1.set 0 (by simp) (.string s)).2 1).1
  have x1 := ((D1.set 0 (by simp) (.string s)).2 1).2
  have m2 : w4.cell? ⟨B, 2, none⟩ = some (.slice qa na da) := (D2.2 2).1
  have q2 : ((w4.setCell ⟨B1, 0, none⟩ (.string s)).setCell ⟨B1, 1, none⟩ (.int .i64 t)).cell? ⟨B1, 2, none⟩ = some (.slice none 0 0) := (((D1.set 0 (by simp) (.string s)).set 1 (by simp) (.int .i64 t)).2 2).1
  have x2 := (((D1.set 0 (by simp) (.string s)).set 1 (by simp) (.int .i64 t)).2 2).2
  have m3 : w4.cell? ⟨B, 3, none⟩ = some (.slice qb nb db) := (D2.2 3).1
  have q3 : (((w4.setCell ⟨B1, 0, none⟩ (.string s)).setCell ⟨B1, 1, none⟩ (.int .i64 t)).setCell ⟨B1, 2, none⟩ (.slice qa na da)).cell? ⟨B1, 3, none⟩ = some (.slice none 0 0) := ((((D1.set 0 (by simp) (.string s)).set 1 (by simp) (.int .i64 t)).set 2 (by simp) (.slice qa na da)).2 3).1
  have x3 := ((((D1.set 0 (by simp) (.string s)).set 1 (by simp) (.int .i64 t)).set 2 (by simp) (.slice qa na da)).2 3).2
  have k6 := ((((k5).setCell (p := ⟨B1, 0, none⟩) (by show B0 ≤ B1; omega) (.string s)).setCell (p := ⟨B1, 1, none⟩) (by show B0 ≤ B1; omega) (.int .i64 t)).setCell (p := ⟨B1, 2, none⟩) (by show B0 ≤ B1; omega) (.slice qa na da)).setCell (p := ⟨B1, 3, none⟩) (by show B0 ≤ B1; omega) (.slice qb nb db)
  have E2_6 := ((((D1).set 0 (by simp) (.string s)).set 1 (by simp) (.int .i64 t)).set 2 (by simp) (.slice qa na da)).set 3 (by simp) (.slice qb nb db)
  have n6 : Wn B1 (B1 + 1) w4 ((((w4.setCell ⟨B1, 0, none⟩ (.string s)).setCell ⟨B1, 1, none⟩ (.int .i64 t)).setCell ⟨B1, 2, none⟩ (.slice qa na da)).setCell ⟨B1, 3, none⟩ (.slice qb nb db)) := (((((Wn.refl B1 (B1 + 1) w4)).set ⟨B1, 0, none⟩ (.string s) ⟨Nat.le_refl _, Nat.lt_succ_self _⟩).set ⟨B1, 1, none⟩ (.int .i64 t) ⟨Nat.le_refl _, Nat.lt_succ_self _⟩).set ⟨B1, 2, none⟩ (.slice qa na da) ⟨Nat.le_refl _, Nat.lt_succ_self _⟩).set ⟨B1, 3, none⟩ (.slice qb nb db) ⟨Nat.le_refl _, Nat.lt_succ_self _⟩
  obtain ⟨w5, hw6⟩ : ∃ X, X = ((((w4.setCell ⟨B1, 0, none⟩ (.string s)).setCell ⟨B1, 1, none⟩ (.int .i64 t)).setCell ⟨B1, 2, none⟩ (.slice qa na da)).setCell ⟨B1, 3, none⟩ (.slice qb nb db)) := ⟨_, rfl⟩
  rw [← hw6] at k6 E2_6 n6
  replace hw6 : Hid (((((w4.setCell ⟨B1, 0, none⟩ (.string s)).setCell ⟨B1, 1, none⟩ (.int .i64 t)).setCell ⟨B1, 2, none⟩ (.slice qa na da)).setCell ⟨B1, 3, none⟩ (.slice qb nb db)) = w5) := hw6.symm
  replace Pa := Pa.past n6 (by omega)
  replace Pb := Pb.past n6 (by omega)
  have y6 := n6.size
  clear n6 D1
  have D1 := E2_6
  clear E2_6
  clear k5
  have u0 : w5.cell? ⟨B1, 0, none⟩ = some (.string s) := (D1.2 0).1
  have u1 : w5.cell? ⟨B1, 1, none⟩ = some (.int .i64 t) := (D1.2 1).1
  have u2 : w5.cell? ⟨B1, 2, none⟩ = some (.slice qa na da) := (D1.2 2).1
  have u3 : w5.cell? ⟨B1, 3, none⟩ = some (.slice qb nb db) := (D1.2 3).1
  clear D1 D2 D0
  go_wp2_with (first | rw [hw5.out] | rw [hw6.out])
  clear c5_0 z5_0 m0 q0 x0 m1 q1 x1 m2 q2 x2 m3 q3 x3 hw5 hw6
  rw [← hB0.out] at k6 g0
  refine bodyPost_ret (v := .agg #[.string s, .int .i64 t, .slice qa na da, .slice qb nb db]) ?_ rfl ⟨qa, da, qb, db, rfl, Pa.wide (by omega) (by omega), Pb.wide (by omega) (by omega), k6⟩
  simp only [results, Tryz.f85]
  go_simp

end Go.Proofs.YthfnechcddmjkaaGreatDoor

namespace Go.Proofs.YthfnechcddmjkaaGreatDoor
open Go.RowKit
set_option maxRecDepth 100000

def WireSh (x : Rc) : Prop := ∃ tp s t d a b, x = [Fd.b tp, Fd.s s, Fd.i t, Fd.i d, Fd.r a, Fd.r b]
def SentSh (x : Rc) : Prop := ∃ s t a b, x = [Fd.s s, Fd.i t, Fd.r a, Fd.r b]
def ItemSh (x : Rc) : Prop := ∃ s t d a, x = [Fd.s s, Fd.i t, Fd.i d, Fd.r a]
def RowSh (x : Rc) : Prop := ∃ a, x = [Fd.r a]
theorem wire_len (x : Rc) (h : WireSh x) : x.length = 6 := by obtain ⟨_, _, _, _, _, _, rfl⟩ := h; rfl
theorem sent_len (x : Rc) (h : SentSh x) : x.length = 4 := by obtain ⟨_, _, _, _, rfl⟩ := h; rfl
theorem item_len (x : Rc) (h : ItemSh x) : x.length = 4 := by obtain ⟨_, _, _, _, rfl⟩ := h; rfl
theorem row_len (x : Rc) (h : RowSh x) : x.length = 1 := by obtain ⟨_, rfl⟩ := h; rfl

theorem szI_tot (s : ByteArray) (n : Nat) (l : Int) : szI s n l = if ((s.size + n : Nat) : Int) ≤ l then l - ((s.size + n : Nat) : Int) else -1 := by
  unfold szI
  by_cases e : (s.size : Int) + n ≤ l
  · rw [if_pos e, if_pos (by omega)]; omega
  · rw [if_neg e, if_neg (by omega)]
theorem szItem_tot (s : ByteArray) (t d : Int) (p : Option Addr) (n c : Nat) (l : Int) (w : World) (hs : s.size ≤ 9223372036854775807) (hn : n ≤ 9223372036854775807) (hl : 0 ≤ l ∧ l ≤ 1048576) : Calls Tryz.prog 112 #[.agg #[.string s, .int .i64 t, .int .i64 d, .slice p n c], .int .i64 l] w fun e w' => e = .returned (.int .i64 (if ((s.size + n : Nat) : Int) ≤ l then l - ((s.size + n : Nat) : Int) else -1)) ∧ Below w.heap.size w w' := by
  rw [← szI_tot]
  exact szItem_any s t d p n c l w hs hn hl
set_option maxHeartbeats 4000000 in
theorem szWire_any (tp : Bool) (s : ByteArray) (t d : Int) (pa pb : Option Addr) (na ca nb cb : Nat) (l : Int) (w : World) (hs : s.size ≤ 9223372036854775807) (ha : na ≤ 9223372036854775807) (hb : nb ≤ 9223372036854775807) (hl : 0 ≤ l ∧ l ≤ 1048576) : Calls Tryz.prog 77 #[.agg #[.bool tp, .string s, .int .i64 t, .int .i64 d, .slice pa na ca, .slice pb nb cb], .int .i64 l] w fun e w' => e = .returned (.int .i64 (if ((s.size + na + nb : Nat) : Int) ≤ l then l - ((s.size + na + nb : Nat) : Int) else -1)) ∧ Below w.heap.size w w' := by
  have kA : ∀ o, Below w.heap.size w (w.alloc o) := fun o => made_below _ _ (Below.refl _ _)
  obtain ⟨T0, hT0⟩ : ∃ T : Nat, T = s.size + na := ⟨_, rfl⟩
  obtain ⟨T1, hT1⟩ : ∃ T : Nat, T = nb := ⟨_, rfl⟩
  have hTT : s.size + na + nb = T0 + T1 := by simp only [hT0, hT1]
  rw [hTT]
  clear hTT
  by_cases h0 : (T0 : Int) ≤ l
  · obtain ⟨l1, m0⟩ : ∃ q : Int, q = l - T0 := ⟨_, rfl⟩
    have g0 : 0 ≤ l1 ∧ l1 ≤ 1048576 := by omega
    have t0 : ¬ l1 < 0 := by omega
    have C0 := fun X (k : Below w.heap.size w X) => szItem_tot s t d pa na ca l X hs ha hl
    rw [if_pos (show ((s.size + na : Nat) : Int) ≤ l by omega), show l - ((s.size + na : Nat) : Int) = l1 by omega] at C0
    by_cases h1 : (T1 : Int) ≤ l1
    · obtain ⟨l2, m1⟩ : ∃ q : Int, q = l1 - T1 := ⟨_, rfl⟩
      have g1 : 0 ≤ l2 ∧ l2 ≤ 1048576 := by omega
      have t1 : ¬ l2 < 0 := by omega
      have C1 := fun X (k : Below w.heap.size w X) => szByteS_any pb nb cb l1 X hb g0
      rw [if_pos (show ((nb : Nat) : Int) ≤ l1 by omega), show l1 - ((nb : Nat) : Int) = l2 by omega] at C1
      rw [if_pos (by omega), show l - ((T0 + T1 : Nat) : Int) = l2 by omega]
      clear h0 m0 hT0 h1 m1 hT1
      go_enter Tryz.func77, Tryz.ntmps77
      go_wp2_with (fail)
      refine (C0 _ (kA _)).mono ?_
      rintro z w0 ⟨rfl, b0⟩
      have D := (Cells.made w _ _).on b0
      have k0 := made_below _ _ b0
      have a0 : w0.cell? ⟨w.heap.size, 5, none⟩ = some (.slice pb nb cb) := (D.2 5).1
      clear b0
      go_wp2_with (fail)
      clear a0
      refine (C1 _ k0).mono ?_
      rintro z w1 ⟨rfl, b1⟩
      replace D := D.on b1
      have k1 := below_on k0 b1
      clear b1 D
      go_wp2_with (fail)
      go_ret
      exact ⟨rfl, k1⟩
    · rw [if_neg (by omega)]
      have C1 := fun X (k : Below w.heap.size w X) => szByteS_any pb nb cb l1 X hb g0
      rw [if_neg (show ¬ ((nb : Nat) : Int) ≤ l1 by omega)] at C1
      clear h0 m0 hT0 h1 hT1
      go_enter Tryz.func77, Tryz.ntmps77
      go_wp2_with (fail)
      refine (C0 _ (kA _)).mono ?_
      rintro z w0 ⟨rfl, b0⟩
      have D := (Cells.made w _ _).on b0
      have k0 := made_below _ _ b0
      have a0 : w0.cell? ⟨w.heap.size, 5, none⟩ = some (.slice pb nb cb) := (D.2 5).1
      clear b0
      go_wp2_with (fail)
      clear a0
      refine (C1 _ k0).mono ?_
      rintro z w1 ⟨rfl, b1⟩
      replace D := D.on b1
      have k1 := below_on k0 b1
      clear b1 D
      go_wp2_with (fail)
      go_ret
      exact ⟨rfl, k1⟩
  · rw [if_neg (by omega)]
    have C0 := fun X (k : Below w.heap.size w X) => szItem_tot s t d pa na ca l X hs ha hl
    rw [if_neg (show ¬ ((s.size + na : Nat) : Int) ≤ l by omega)] at C0
    clear  h0 hT0
    go_enter Tryz.func77, Tryz.ntmps77
    go_wp2_with (fail)
    refine (C0 _ (kA _)).mono ?_
    rintro z w0 ⟨rfl, b0⟩
    have D := (Cells.made w _ _).on b0
    have k0 := made_below _ _ b0
    clear b0 D
    go_wp2_with (fail)
    go_ret
    exact ⟨rfl, k0⟩

set_option maxHeartbeats 4000000 in
theorem szSent_any (s : ByteArray) (t : Int) (pa pb : Option Addr) (na ca nb cb : Nat) (l : Int) (w : World) (hs : s.size ≤ 9223372036854775807) (ha : na ≤ 9223372036854775807) (hb : nb ≤ 9223372036854775807) (hl : 0 ≤ l ∧ l ≤ 1048576) : Calls Tryz.prog 78 #[.agg #[.string s, .int .i64 t, .slice pa na ca, .slice pb nb cb], .int .i64 l] w fun e w' => e = .returned (.int .i64 (if ((s.size + na + nb : Nat) : Int) ≤ l then l - ((s.size + na + nb : Nat) : Int) else -1)) ∧ Below w.heap.size w w' := by
  have kA : ∀ o, Below w.heap.size w (w.alloc o) := fun o => made_below _ _ (Below.refl _ _)
  obtain ⟨T0, hT0⟩ : ∃ T : Nat, T = s.size := ⟨_, rfl⟩
  obtain ⟨T1, hT1⟩ : ∃ T : Nat, T = na := ⟨_, rfl⟩
  obtain ⟨T2, hT2⟩ : ∃ T : Nat, T = nb := ⟨_, rfl⟩
  have hTT : s.size + na + nb = T0 + T1 + T2 := by simp only [hT0, hT1, hT2]
  rw [hTT]
  clear hTT
  by_cases h0 : (T0 : Int) ≤ l
  · obtain ⟨l1, m0⟩ : ∃ q : Int, q = l - T0 := ⟨_, rfl⟩
    have g0 : 0 ≤ l1 ∧ l1 ≤ 1048576 := by omega
    have t0 : ¬ l1 < 0 := by omega
    have e0 : l - ((s.size : Nat) : Int) = l1 := by rw [← hT0]; exact m0.symm
    by_cases h1 : (T1 : Int) ≤ l1
    · obtain ⟨l2, m1⟩ : ∃ q : Int, q = l1 - T1 := ⟨_, rfl⟩
      have g1 : 0 ≤ l2 ∧ l2 ≤ 1048576 := by omega
      have t1 : ¬ l2 < 0 := by omega
      have C1 := fun X (k : Below w.heap.size w X) => szByteS_any pa na ca l1 X ha g0
      rw [if_pos (show ((na : Nat) : Int) ≤ l1 by omega), show l1 - ((na : Nat) : Int) = l2 by omega] at C1
      by_cases h2 : (T2 : Int) ≤ l2
      · obtain ⟨l3, m2⟩ : ∃ q : Int, q = l2 - T2 := ⟨_, rfl⟩
        have g2 : 0 ≤ l3 ∧ l3 ≤ 1048576 := by omega
        have t2 : ¬ l3 < 0 := by omega
        have C2 := fun X (k : Below w.heap.size w X) => szByteS_any pb nb cb l2 X hb g1
        rw [if_pos (show ((nb : Nat) : Int) ≤ l2 by omega), show l2 - ((nb : Nat) : Int) = l3 by omega] at C2
        rw [if_pos (by omega), show l - ((T0 + T1 + T2 : Nat) : Int) = l3 by omega]
        clear h0 m0 hT0 h1 m1 hT1 h2 m2 hT2
        go_enter Tryz.func78, Tryz.ntmps78
        go_wp2_with (fail)
        refine (C1 _ (kA _)).mono ?_
        rintro z w1 ⟨rfl, b1⟩
        have D := (Cells.made w _ _).on b1
        have k1 := made_below _ _ b1
        have a0 : w1.cell? ⟨w.heap.size, 3, none⟩ = some (.slice pb nb cb) := (D.2 3).1
        clear b1
        go_wp2_with (fail)
        clear a0
        refine (C2 _ k1).mono ?_
        rintro z w2 ⟨rfl, b2⟩
        replace D := D.on b2
        have k2 := below_on k1 b2
        clear b2 D
        go_wp2_with (fail)
        go_ret
        exact ⟨rfl, k2⟩
      · rw [if_neg (by omega)]
        have C2 := fun X (k : Below w.heap.size w X) => szByteS_any pb nb cb l2 X hb g1
        rw [if_neg (show ¬ ((nb : Nat) : Int) ≤ l2 by omega)] at C2
        clear h0 m0 hT0 h1 m1 hT1 h2 hT2
        go_enter Tryz.func78, Tryz.ntmps78
        go_wp2_with (fail)
        refine (C1 _ (kA _)).mono ?_
        rintro z w1 ⟨rfl, b1⟩
        have D := (Cells.made w _ _).on b1
        have k1 := made_below _ _ b1
        have a0 : w1.cell? ⟨w.heap.size, 3, none⟩ = some (.slice pb nb cb) := (D.2 3).1
        clear b1
        go_wp2_with (fail)
        clear a0
        refine (C2 _ k1).mono ?_
        rintro z w2 ⟨rfl, b2⟩
        replace D := D.on b2
        have k2 := below_on k1 b2
        clear b2 D
        go_wp2_with (fail)
        go_ret
        exact ⟨rfl, k2⟩
    · rw [if_neg (by omega)]
      have C1 := fun X (k : Below w.heap.size w X) => szByteS_any pa na ca l1 X ha g0
      rw [if_neg (show ¬ ((na : Nat) : Int) ≤ l1 by omega)] at C1
      clear h0 m0 hT0 h1 hT1
      go_enter Tryz.func78, Tryz.ntmps78
      go_wp2_with (fail)
      refine (C1 _ (kA _)).mono ?_
      rintro z w1 ⟨rfl, b1⟩
      have D := (Cells.made w _ _).on b1
      have k1 := made_below _ _ b1
      clear b1 D
      go_wp2_with (fail)
      go_ret
      exact ⟨rfl, k1⟩
  · rw [if_neg (by omega)]
    obtain ⟨l1, m0⟩ : ∃ q : Int, q = l - T0 := ⟨_, rfl⟩
    have t0 : l1 < 0 := by omega
    have e0 : l - ((s.size : Nat) : Int) = l1 := by rw [← hT0]; exact m0.symm
    clear  h0 hT0 m0
    go_enter Tryz.func78, Tryz.ntmps78
    go_wp2_with (fail)
    go_ret
    exact ⟨rfl, kA _⟩

set_option maxHeartbeats 4000000 in
theorem szWireSF_any (p : Option Addr) (n c : Nat) (xs : List Rc) (l : Int) (w : World) (h : RecA w 6 WireSh p n xs) (hl0 : 0 ≤ l ∧ l ≤ 1048576) :
    Calls Tryz.prog 39 #[.slice p n c, .int .i64 l] w fun e w' => e = .returned (.int .i64 (if ((n + totF xs : Nat) : Int) ≤ l then l - ((n + totF xs : Nat) : Int) else -1)) ∧ Below w.heap.size w w' := by
  have hn := h.hn
  have hlen := h.len
  obtain ⟨R, hR⟩ : ∃ R : Int, R = if ((n + totF xs : Nat) : Int) ≤ l then l - ((n + totF xs : Nat) : Int) else -1 := ⟨_, rfl⟩
  rw [← hR]
  replace hR : Hid (R = if ((n + totF xs : Nat) : Int) ≤ l then l - ((n + totF xs : Nat) : Int) else -1) := hR
  by_cases hnl : (n : Int) ≤ l
  · obtain ⟨l1, hl1⟩ : ∃ l1 : Int, l1 = l - n := ⟨_, rfl⟩
    have hl2 : 0 ≤ l1 ∧ l1 ≤ 1048576 := by omega
    have hl3 : ¬ l1 < 0 := by omega
    have hl4 : l - (n : Int) = l1 := hl1.symm
    replace hR : Hid (R = if (totF xs : Int) ≤ l1 then l1 - totF xs else -1) := by
      rw [Hid, hR.out]
      by_cases e : (totF xs : Int) ≤ l1
      · rw [if_pos e, if_pos (by omega)]; omega
      · rw [if_neg e, if_neg (by omega)]
    clear hl1
    go_enter Tryz.func39, Tryz.ntmps39
    go_wp2_with (fail)
    go_loopw [1, 5] (fun a i wr => ∃ k : Nat, k ≤ n ∧ i = .int .i64 k ∧ (∃ m : Int, a = .int .i64 m ∧ 0 ≤ m ∧ m ≤ 1048576 ∧ Hid (m = l1 - totF (xs.take k))) ∧ Below w.heap.size w wr) (fun _ i _ => n - (intOf i).toNat)
    case atStart => exact ⟨0, Nat.zero_le _, rfl, ⟨l1, rfl, hl2.1, hl2.2, by simp [Hid, totF]⟩, Below.refl _ _⟩
    case round =>
      obtain ⟨k, hk, rfl, ⟨m, rfl, hm0, hm1, hm⟩, hbel⟩ := hrel
      by_cases hlt : k < n
      · obtain ⟨b, o, x, rfl, hx, hxm, hc, hA, hS⟩ := (h.on hbel).at hlt
        have hst := totF_step xs k (by omega)
        have hle := totF_le xs (k + 1)
        rw [hx] at hst
        obtain ⟨tp, s, t, d, ⟨pa, na, ca, xsa⟩, ⟨pb, nb, cb, xsb⟩, rfl⟩ := hS
        have c0 : wr.cell? ⟨b, o + k * 6, none⟩ = some (.bool tp) := hc 0 _ rfl
        have c1 : wr.cell? ⟨b, o + k * 6 + 1, none⟩ = some (.string s) := hc 1 _ rfl
        have c2 : wr.cell? ⟨b, o + k * 6 + 2, none⟩ = some (.int .i64 t) := hc 2 _ rfl
        have c3 : wr.cell? ⟨b, o + k * 6 + 3, none⟩ = some (.int .i64 d) := hc 3 _ rfl
        have c4 : wr.cell? ⟨b, o + k * 6 + 4, none⟩ = some (.slice pa na ca) := hc 4 _ rfl
        have c5 : wr.cell? ⟨b, o + k * 6 + 5, none⟩ = some (.slice pb nb cb) := hc 5 _ rfl
        have hq : Rc.tot [Fd.b tp, Fd.s s, Fd.i t, Fd.i d, Fd.r ⟨pa, na, ca, xsa⟩, Fd.r ⟨pb, nb, cb, xsb⟩] = s.size + na + nb := by simp only [Rc.tot, List.map_cons, List.map_nil, List.sum_cons, List.sum_nil, Fd.tot]; omega
        rw [hq] at hst
        have C := fun X (k : Below wr.heap.size wr X) => szWire_any tp s t d pa pb na ca nb cb m X (show Fd.A wr (Fd.s s) from hA _ (by simp)) (RwA.Ok.hn (show Fd.A wr (Fd.r ⟨pa, na, ca, xsa⟩) from hA _ (by simp))) (RwA.Ok.hn (show Fd.A wr (Fd.r ⟨pb, nb, cb, xsb⟩) from hA _ (by simp))) ⟨hm0, hm1⟩
        obtain ⟨T, hT⟩ : ∃ T : Nat, T = s.size + na + nb := ⟨_, rfl⟩
        have C' : ∀ X (k : Below wr.heap.size wr X), Calls Tryz.prog 77 #[.agg #[.bool tp, .string s, .int .i64 t, .int .i64 d, .slice pa na ca, .slice pb nb cb], .int .i64 m] X fun e w' => e = .returned (.int .i64 (if (T : Int) ≤ m then m - (T : Int) else -1)) ∧ Below X.heap.size X w' := by rw [hT]; exact C
        rw [← hT] at hst
        clear hc h hx hxm hA hq hT C
        have C := C'
        clear C'
        by_cases hfit : (T : Int) ≤ m
        · rw [if_pos hfit] at C
          obtain ⟨m2, hm2⟩ : ∃ m2 : Int, m2 = m - T := ⟨_, rfl⟩
          rw [← hm2] at C
          have hm3 : 0 ≤ m2 ∧ m2 ≤ 1048576 := by omega
          have hm4 : ¬ m2 < 0 := by omega
          have hnew : Hid (m2 = l1 - totF (xs.take (k + 1))) := by have := hm.out; rw [Hid]; omega
          clear hm2 hm hst hle hfit
          go_wp2_with (fail)
          refine (C _ (Below.refl _ _)).mono ?_
          rintro z w2 ⟨rfl, b2⟩
          have hbel2 := below_on hbel b2
          clear b2 hbel C
          go_wp2_with (fail)
          go_roundw
          case rel => exact ⟨k + 1, by omega, by go_num, ⟨m2, rfl, hm3.1, hm3.2, hnew⟩, hbel2⟩
          case measure => simp [intOf]; omega
        · rw [if_neg hfit] at C
          have hr : R = -1 := by
            rw [hR.out, if_neg]
            have := hm.out
            omega
          subst hr
          clear hm hst hle hfit hR
          go_wp2_with (fail)
          refine (C _ (Below.refl _ _)).mono ?_
          rintro z w2 ⟨rfl, b2⟩
          have hbel2 := below_on hbel b2
          clear b2 hbel C
          go_wp2_with (fail)
          go_ret
          exact ⟨rfl, hbel2⟩
      · have hkn : k = n := by omega
        subst hkn
        have hr : R = m := by
          have e := hm.out
          rw [← hlen, List.take_length] at e
          rw [hR.out, if_pos (by omega)]
          omega
        subst hr
        clear hR hm
        go_wp2_with (fail)
        go_ret
        exact ⟨rfl, hbel⟩
  · have hr : R = -1 := by rw [hR.out, if_neg (by omega)]
    subst hr
    obtain ⟨l1, hl1⟩ : ∃ l1 : Int, l1 = l - n := ⟨_, rfl⟩
    have hl3 : l1 < 0 := by omega
    have hl4 : l - (n : Int) = l1 := hl1.symm
    have hl5 : -9223372036854775808 ≤ l1 := by omega
    clear hR hl1 h
    go_enter Tryz.func39, Tryz.ntmps39
    go_wp2_with (fail)
    go_ret
    exact ⟨rfl, .refl _ _⟩

set_option maxHeartbeats 4000000 in
theorem szSentSF_any (p : Option Addr) (n c : Nat) (xs : List Rc) (l : Int) (w : World) (h : RecA w 4 SentSh p n xs) (hl0 : 0 ≤ l ∧ l ≤ 1048576) :
    Calls Tryz.prog 40 #[.slice p n c, .int .i64 l] w fun e w' => e = .returned (.int .i64 (if ((n + totF xs : Nat) : Int) ≤ l then l - ((n + totF xs : Nat) : Int) else -1)) ∧ Below w.heap.size w w' := by
  have hn := h.hn
  have hlen := h.len
  obtain ⟨R, hR⟩ : ∃ R : Int, R = if ((n + totF xs : Nat) : Int) ≤ l then l - ((n + totF xs : Nat) : Int) else -1 := ⟨_, rfl⟩
  rw [← hR]
  replace hR : Hid (R = if ((n + totF xs : Nat) : Int) ≤ l then l - ((n + totF xs : Nat) : Int) else -1) := hR
  by_cases hnl : (n : Int) ≤ l
  · obtain ⟨l1, hl1⟩ : ∃ l1 : Int, l1 = l - n := ⟨_, rfl⟩
    have hl2 : 0 ≤ l1 ∧ l1 ≤ 1048576 := by omega
    have hl3 : ¬ l1 < 0 := by omega
    have hl4 : l - (n : Int) = l1 := hl1.symm
    replace hR : Hid (R = if (totF xs : Int) ≤ l1 then l1 - totF xs else -1) := by
      rw [Hid, hR.out]
      by_cases e : (totF xs : Int) ≤ l1
      · rw [if_pos e, if_pos (by omega)]; omega
      · rw [if_neg e, if_neg (by omega)]
    clear hl1
    go_enter Tryz.func40, Tryz.ntmps40
    go_wp2_with (fail)
    go_loopw [1, 5] (fun a i wr => ∃ k : Nat, k ≤ n ∧ i = .int .i64 k ∧ (∃ m : Int, a = .int .i64 m ∧ 0 ≤ m ∧ m ≤ 1048576 ∧ Hid (m = l1 - totF (xs.take k))) ∧ Below w.heap.size w wr) (fun _ i _ => n - (intOf i).toNat)
    case atStart => exact ⟨0, Nat.zero_le _, rfl, ⟨l1, rfl, hl2.1, hl2.2, by simp [Hid, totF]⟩, Below.refl _ _⟩
    case round =>
      obtain ⟨k, hk, rfl, ⟨m, rfl, hm0, hm1, hm⟩, hbel⟩ := hrel
      by_cases hlt : k < n
      · obtain ⟨b, o, x, rfl, hx, hxm, hc, hA, hS⟩ := (h.on hbel).at hlt
        have hst := totF_step xs k (by omega)
        have hle := totF_le xs (k + 1)
        rw [hx] at hst
        obtain ⟨s, t, ⟨pa, na, ca, xsa⟩, ⟨pb, nb, cb, xsb⟩, rfl⟩ := hS
        have c0 : wr.cell? ⟨b, o + k * 4, none⟩ = some (.string s) := hc 0 _ rfl
        have c1 : wr.cell? ⟨b, o + k * 4 + 1, none⟩ = some (.int .i64 t) := hc 1 _ rfl
        have c2 : wr.cell? ⟨b, o + k * 4 + 2, none⟩ = some (.slice pa na ca) := hc 2 _ rfl
        have c3 : wr.cell? ⟨b, o + k * 4 + 3, none⟩ = some (.slice pb nb cb) := hc 3 _ rfl
        have hq : Rc.tot [Fd.s s, Fd.i t, Fd.r ⟨pa, na, ca, xsa⟩, Fd.r ⟨pb, nb, cb, xsb⟩] = s.size + na + nb := by simp only [Rc.tot, List.map_cons, List.map_nil, List.sum_cons, List.sum_nil, Fd.tot]; omega
        rw [hq] at hst
        have C := fun X (k : Below wr.heap.size wr X) => szSent_any s t pa pb na ca nb cb m X (show Fd.A wr (Fd.s s) from hA _ (by simp)) (RwA.Ok.hn (show Fd.A wr (Fd.r ⟨pa, na, ca, xsa⟩) from hA _ (by simp))) (RwA.Ok.hn (show Fd.A wr (Fd.r ⟨pb, nb, cb, xsb⟩) from hA _ (by simp))) ⟨hm0, hm1⟩
        obtain ⟨T, hT⟩ : ∃ T : Nat, T = s.size + na + nb := ⟨_, rfl⟩
        have C' : ∀ X (k : Below wr.heap.size wr X), Calls Tryz.prog 78 #[.agg #[.string s, .int .i64 t, .slice pa na ca, .slice pb nb cb], .int .i64 m] X fun e w' => e = .returned (.int .i64 (if (T : Int) ≤ m then m - (T : Int) else -1)) ∧ Below X.heap.size X w' := by rw [hT]; exact C
        rw [← hT] at hst
        clear hc h hx hxm hA hq hT C
        have C := C'
        clear C'
        by_cases hfit : (T : Int) ≤ m
        · rw [if_pos hfit] at C
          obtain ⟨m2, hm2⟩ : ∃ m2 : Int, m2 = m - T := ⟨_, rfl⟩
          rw [← hm2] at C
          have hm3 : 0 ≤ m2 ∧ m2 ≤ 1048576 := by omega
          have hm4 : ¬ m2 < 0 := by omega
          have hnew : Hid (m2 = l1 - totF (xs.take (k + 1))) := by have := hm.out; rw [Hid]; omega
          clear hm2 hm hst hle hfit
          go_wp2_with (fail)
          refine (C _ (Below.refl _ _)).mono ?_
          rintro z w2 ⟨rfl, b2⟩
          have hbel2 := below_on hbel b2
          clear b2 hbel C
          go_wp2_with (fail)
          go_roundw
          case rel => exact ⟨k + 1, by omega, by go_num, ⟨m2, rfl, hm3.1, hm3.2, hnew⟩, hbel2⟩
          case measure => simp [intOf]; omega
        · rw [if_neg hfit] at C
          have hr : R = -1 := by
            rw [hR.out, if_neg]
            have := hm.out
            omega
          subst hr
          clear hm hst hle hfit hR
          go_wp2_with (fail)
          refine (C _ (Below.refl _ _)).mono ?_
          rintro z w2 ⟨rfl, b2⟩
          have hbel2 := below_on hbel b2
          clear b2 hbel C
          go_wp2_with (fail)
          go_ret
          exact ⟨rfl, hbel2⟩
      · have hkn : k = n := by omega
        subst hkn
        have hr : R = m := by
          have e := hm.out
          rw [← hlen, List.take_length] at e
          rw [hR.out, if_pos (by omega)]
          omega
        subst hr
        clear hR hm
        go_wp2_with (fail)
        go_ret
        exact ⟨rfl, hbel⟩
  · have hr : R = -1 := by rw [hR.out, if_neg (by omega)]
    subst hr
    obtain ⟨l1, hl1⟩ : ∃ l1 : Int, l1 = l - n := ⟨_, rfl⟩
    have hl3 : l1 < 0 := by omega
    have hl4 : l - (n : Int) = l1 := hl1.symm
    have hl5 : -9223372036854775808 ≤ l1 := by omega
    clear hR hl1 h
    go_enter Tryz.func40, Tryz.ntmps40
    go_wp2_with (fail)
    go_ret
    exact ⟨rfl, .refl _ _⟩

set_option maxHeartbeats 4000000 in
theorem szItemSF_any (p : Option Addr) (n c : Nat) (xs : List Rc) (l : Int) (w : World) (h : RecA w 4 ItemSh p n xs) (hl0 : 0 ≤ l ∧ l ≤ 1048576) :
    Calls Tryz.prog 75 #[.slice p n c, .int .i64 l] w fun e w' => e = .returned (.int .i64 (if ((n + totF xs : Nat) : Int) ≤ l then l - ((n + totF xs : Nat) : Int) else -1)) ∧ Below w.heap.size w w' := by
  have hn := h.hn
  have hlen := h.len
  obtain ⟨R, hR⟩ : ∃ R : Int, R = if ((n + totF xs : Nat) : Int) ≤ l then l - ((n + totF xs : Nat) : Int) else -1 := ⟨_, rfl⟩
  rw [← hR]
  replace hR : Hid (R = if ((n + totF xs : Nat) : Int) ≤ l then l - ((n + totF xs : Nat) : Int) else -1) := hR
  by_cases hnl : (n : Int) ≤ l
  · obtain ⟨l1, hl1⟩ : ∃ l1 : Int, l1 = l - n := ⟨_, rfl⟩
    have hl2 : 0 ≤ l1 ∧ l1 ≤ 1048576 := by omega
    have hl3 : ¬ l1 < 0 := by omega
    have hl4 : l - (n : Int) = l1 := hl1.symm
    replace hR : Hid (R = if (totF xs : Int) ≤ l1 then l1 - totF xs else -1) := by
      rw [Hid, hR.out]
      by_cases e : (totF xs : Int) ≤ l1
      · rw [if_pos e, if_pos (by omega)]; omega
      · rw [if_neg e, if_neg (by omega)]
    clear hl1
    go_enter Tryz.func75, Tryz.ntmps75
    go_wp2_with (fail)
    go_loopw [1, 5] (fun a i wr => ∃ k : Nat, k ≤ n ∧ i = .int .i64 k ∧ (∃ m : Int, a = .int .i64 m ∧ 0 ≤ m ∧ m ≤ 1048576 ∧ Hid (m = l1 - totF (xs.take k))) ∧ Below w.heap.size w wr) (fun _ i _ => n - (intOf i).toNat)
    case atStart => exact ⟨0, Nat.zero_le _, rfl, ⟨l1, rfl, hl2.1, hl2.2, by simp [Hid, totF]⟩, Below.refl _ _⟩
    case round =>
      obtain ⟨k, hk, rfl, ⟨m, rfl, hm0, hm1, hm⟩, hbel⟩ := hrel
      by_cases hlt : k < n
      · obtain ⟨b, o, x, rfl, hx, hxm, hc, hA, hS⟩ := (h.on hbel).at hlt
        have hst := totF_step xs k (by omega)
        have hle := totF_le xs (k + 1)
        rw [hx] at hst
        obtain ⟨s, t, d, ⟨pa, na, ca, xsa⟩, rfl⟩ := hS
        have c0 : wr.cell? ⟨b, o + k * 4, none⟩ = some (.string s) := hc 0 _ rfl
        have c1 : wr.cell? ⟨b, o + k * 4 + 1, none⟩ = some (.int .i64 t) := hc 1 _ rfl
        have c2 : wr.cell? ⟨b, o + k * 4 + 2, none⟩ = some (.int .i64 d) := hc 2 _ rfl
        have c3 : wr.cell? ⟨b, o + k * 4 + 3, none⟩ = some (.slice pa na ca) := hc 3 _ rfl
        have hq : Rc.tot [Fd.s s, Fd.i t, Fd.i d, Fd.r ⟨pa, na, ca, xsa⟩] = s.size + na := by simp only [Rc.tot, List.map_cons, List.map_nil, List.sum_cons, List.sum_nil, Fd.tot]; omega
        rw [hq] at hst
        have C := fun X (k : Below wr.heap.size wr X) => szItem_tot s t d pa na ca m X (show Fd.A wr (Fd.s s) from hA _ (by simp)) (RwA.Ok.hn (show Fd.A wr (Fd.r ⟨pa, na, ca, xsa⟩) from hA _ (by simp))) ⟨hm0, hm1⟩
        obtain ⟨T, hT⟩ : ∃ T : Nat, T = s.size + na := ⟨_, rfl⟩
        have C' : ∀ X (k : Below wr.heap.size wr X), Calls Tryz.prog 112 #[.agg #[.string s, .int .i64 t, .int .i64 d, .slice pa na ca], .int .i64 m] X fun e w' => e = .returned (.int .i64 (if (T : Int) ≤ m then m - (T : Int) else -1)) ∧ Below X.heap.size X w' := by rw [hT]; exact C
        rw [← hT] at hst
        clear hc h hx hxm hA hq hT C
        have C := C'
        clear C'
        by_cases hfit : (T : Int) ≤ m
        · rw [if_pos hfit] at C
          obtain ⟨m2, hm2⟩ : ∃ m2 : Int, m2 = m - T := ⟨_, rfl⟩
          rw [← hm2] at C
          have hm3 : 0 ≤ m2 ∧ m2 ≤ 1048576 := by omega
          have hm4 : ¬ m2 < 0 := by omega
          have hnew : Hid (m2 = l1 - totF (xs.take (k + 1))) := by have := hm.out; rw [Hid]; omega
          clear hm2 hm hst hle hfit
          go_wp2_with (fail)
          refine (C _ (Below.refl _ _)).mono ?_
          rintro z w2 ⟨rfl, b2⟩
          have hbel2 := below_on hbel b2
          clear b2 hbel C
          go_wp2_with (fail)
          go_roundw
          case rel => exact ⟨k + 1, by omega, by go_num, ⟨m2, rfl, hm3.1, hm3.2, hnew⟩, hbel2⟩
          case measure => simp [intOf]; omega
        · rw [if_neg hfit] at C
          have hr : R = -1 := by
            rw [hR.out, if_neg]
            have := hm.out
            omega
          subst hr
          clear hm hst hle hfit hR
          go_wp2_with (fail)
          refine (C _ (Below.refl _ _)).mono ?_
          rintro z w2 ⟨rfl, b2⟩
          have hbel2 := below_on hbel b2
          clear b2 hbel C
          go_wp2_with (fail)
          go_ret
          exact ⟨rfl, hbel2⟩
      · have hkn : k = n := by omega
        subst hkn
        have hr : R = m := by
          have e := hm.out
          rw [← hlen, List.take_length] at e
          rw [hR.out, if_pos (by omega)]
          omega
        subst hr
        clear hR hm
        go_wp2_with (fail)
        go_ret
        exact ⟨rfl, hbel⟩
  · have hr : R = -1 := by rw [hR.out, if_neg (by omega)]
    subst hr
    obtain ⟨l1, hl1⟩ : ∃ l1 : Int, l1 = l - n := ⟨_, rfl⟩
    have hl3 : l1 < 0 := by omega
    have hl4 : l - (n : Int) = l1 := hl1.symm
    have hl5 : -9223372036854775808 ≤ l1 := by omega
    clear hR hl1 h
    go_enter Tryz.func75, Tryz.ntmps75
    go_wp2_with (fail)
    go_ret
    exact ⟨rfl, .refl _ _⟩

set_option maxHeartbeats 4000000 in
theorem szByteSSF_any (p : Option Addr) (n c : Nat) (xs : List Rc) (l : Int) (w : World) (h : RecA w 1 RowSh p n xs) (hl0 : 0 ≤ l ∧ l ≤ 1048576) :
    Calls Tryz.prog 76 #[.slice p n c, .int .i64 l] w fun e w' => e = .returned (.int .i64 (if ((n + totF xs : Nat) : Int) ≤ l then l - ((n + totF xs : Nat) : Int) else -1)) ∧ Below w.heap.size w w' := by
  have hn := h.hn
  have hlen := h.len
  obtain ⟨R, hR⟩ : ∃ R : Int, R = if ((n + totF xs : Nat) : Int) ≤ l then l - ((n + totF xs : Nat) : Int) else -1 := ⟨_, rfl⟩
  rw [← hR]
  replace hR : Hid (R = if ((n + totF xs : Nat) : Int) ≤ l then l - ((n + totF xs : Nat) : Int) else -1) := hR
  by_cases hnl : (n : Int) ≤ l
  · obtain ⟨l1, hl1⟩ : ∃ l1 : Int, l1 = l - n := ⟨_, rfl⟩
    have hl2 : 0 ≤ l1 ∧ l1 ≤ 1048576 := by omega
    have hl3 : ¬ l1 < 0 := by omega
    have hl4 : l - (n : Int) = l1 := hl1.symm
    replace hR : Hid (R = if (totF xs : Int) ≤ l1 then l1 - totF xs else -1) := by
      rw [Hid, hR.out]
      by_cases e : (totF xs : Int) ≤ l1
      · rw [if_pos e, if_pos (by omega)]; omega
      · rw [if_neg e, if_neg (by omega)]
    clear hl1
    go_enter Tryz.func76, Tryz.ntmps76
    go_wp2_with (fail)
    go_loopw [1, 5] (fun a i wr => ∃ k : Nat, k ≤ n ∧ i = .int .i64 k ∧ (∃ m : Int, a = .int .i64 m ∧ 0 ≤ m ∧ m ≤ 1048576 ∧ Hid (m = l1 - totF (xs.take k))) ∧ Below w.heap.size w wr) (fun _ i _ => n - (intOf i).toNat)
    case atStart => exact ⟨0, Nat.zero_le _, rfl, ⟨l1, rfl, hl2.1, hl2.2, by simp [Hid, totF]⟩, Below.refl _ _⟩
    case round =>
      obtain ⟨k, hk, rfl, ⟨m, rfl, hm0, hm1, hm⟩, hbel⟩ := hrel
      by_cases hlt : k < n
      · obtain ⟨b, o, x, rfl, hx, hxm, hc, hA, hS⟩ := (h.on hbel).at hlt
        have hst := totF_step xs k (by omega)
        have hle := totF_le xs (k + 1)
        rw [hx] at hst
        obtain ⟨⟨pa, na, ca, xsa⟩, rfl⟩ := hS
        have c0 : wr.cell? ⟨b, o + k, none⟩ = some (.slice pa na ca) := by have q := hc 0 _ rfl; rw [Nat.mul_one] at q; exact q
        have hq : Rc.tot [Fd.r ⟨pa, na, ca, xsa⟩] = na := by simp only [Rc.tot, List.map_cons, List.map_nil, List.sum_cons, List.sum_nil, Fd.tot]; omega
        rw [hq] at hst
        have C := fun X (k : Below wr.heap.size wr X) => szByteS_any pa na ca m X (RwA.Ok.hn (show Fd.A wr (Fd.r ⟨pa, na, ca, xsa⟩) from hA _ (by simp))) ⟨hm0, hm1⟩
        obtain ⟨T, hT⟩ : ∃ T : Nat, T = na := ⟨_, rfl⟩
        have C' : ∀ X (k : Below wr.heap.size wr X), Calls Tryz.prog 36 #[.slice pa na ca, .int .i64 m] X fun e w' => e = .returned (.int .i64 (if (T : Int) ≤ m then m - (T : Int) else -1)) ∧ Below X.heap.size X w' := by rw [hT]; exact C
        rw [← hT] at hst
        clear hc h hx hxm hA hq hT C
        have C := C'
        clear C'
        by_cases hfit : (T : Int) ≤ m
        · rw [if_pos hfit] at C
          obtain ⟨m2, hm2⟩ : ∃ m2 : Int, m2 = m - T := ⟨_, rfl⟩
          rw [← hm2] at C
          have hm3 : 0 ≤ m2 ∧ m2 ≤ 1048576 := by omega
          have hm4 : ¬ m2 < 0 := by omega
          have hnew : Hid (m2 = l1 - totF (xs.take (k + 1))) := by have := hm.out; rw [Hid]; omega
          clear hm2 hm hst hle hfit
          go_wp2_with (fail)
          refine (C _ (Below.refl _ _)).mono ?_
          rintro z w2 ⟨rfl, b2⟩
          have hbel2 := below_on hbel b2
          clear b2 hbel C
          go_wp2_with (fail)
          go_roundw
          case rel => exact ⟨k + 1, by omega, by go_num, ⟨m2, rfl, hm3.1, hm3.2, hnew⟩, hbel2⟩
          case measure => simp [intOf]; omega
        · rw [if_neg hfit] at C
          have hr : R = -1 := by
            rw [hR.out, if_neg]
            have := hm.out
            omega
          subst hr
          clear hm hst hle hfit hR
          go_wp2_with (fail)
          refine (C _ (Below.refl _ _)).mono ?_
          rintro z w2 ⟨rfl, b2⟩
          have hbel2 := below_on hbel b2
          clear b2 hbel C
          go_wp2_with (fail)
          go_ret
          exact ⟨rfl, hbel2⟩
      · have hkn : k = n := by omega
        subst hkn
        have hr : R = m := by
          have e := hm.out
          rw [← hlen, List.take_length] at e
          rw [hR.out, if_pos (by omega)]
          omega
        subst hr
        clear hR hm
        go_wp2_with (fail)
        go_ret
        exact ⟨rfl, hbel⟩
  · have hr : R = -1 := by rw [hR.out, if_neg (by omega)]
    subst hr
    obtain ⟨l1, hl1⟩ : ∃ l1 : Int, l1 = l - n := ⟨_, rfl⟩
    have hl3 : l1 < 0 := by omega
    have hl4 : l - (n : Int) = l1 := hl1.symm
    have hl5 : -9223372036854775808 ≤ l1 := by omega
    clear hR hl1 h
    go_enter Tryz.func76, Tryz.ntmps76
    go_wp2_with (fail)
    go_ret
    exact ⟨rfl, .refl _ _⟩

end Go.Proofs.YthfnechcddmjkaaGreatDoor

namespace Go.Proofs.YthfnechcddmjkaaGreatDoor
open Go.RowKit
set_option maxRecDepth 100000

theorem set_behind0 (a l : List Value) (m : Nat) (v : Value) (h : a.length = m) : (a ++ l).set m v = a ++ l.set 0 v := by
  have := set_behind a l m 0 v h
  simpa using this
theorem infoWireF : (Tryz.prog.info? 88).map (fun i => (i.zero, i.size, i.bytes)) = some (some (.agg #[.bool false, .string ByteArray.empty, .int .i64 0, .int .i64 0, .slice none 0 0, .slice none 0 0]), 6, 88) := by kernel_rfl
theorem made_WireF (n : Nat) : (madeCells #[.bool false, .string ByteArray.empty, .int .i64 0, .int .i64 0, .slice none 0 0, .slice none 0 0] (n * 6)).toList = flatF (List.replicate n [Fd.b false, Fd.s ByteArray.empty, Fd.i 0, Fd.i 0, Fd.r default, Fd.r default]) := by
  induction n with
  | zero => simp [madeCells, flatF]
  | succ n ih =>
    rw [List.replicate_succ', flatF_append, ← ih]
    simp only [madeCells, Array.toList_map, Array.toList_range]
    rw [show (n + 1) * 6 = n * 6 + 6 by omega, List.range_add, List.map_append]
    congr 1
    have e : ∀ k, (n * 6 + k) % 6 = k % 6 := fun k => by omega
    simp [flatF, Rc.vals, Fd.val, List.range_succ, default, e]

set_option maxHeartbeats 8000000 in
theorem toWireSF_own (p : Option Addr) (n c : Nat) (xs : List Rc) (w : World) (hn : n ≤ 1048576) (h : RecA w 6 WireSh p n xs) (fit : ∀ x ∈ xs, ∀ f ∈ x, f.fit) :
    Calls Tryz.prog 45 #[.slice p n c] w fun e w' => ∃ p' c' xs', e = .returned (.slice p' n c') ∧ RecP w' w.heap.size w'.heap.size 6 WireSh p' n xs' ∧ Hid (xs'.map Rc.con = xs.map Rc.con) ∧ Below w.heap.size w w' := by
  obtain ⟨i0, hi, hz0, hz1, hz2⟩ := info_parts infoWireF
  go_enter Tryz.func45, Tryz.ntmps45
  go_wp2_with (at_make; refine wpList_make_full _ rfl _ _ 29 rfl w.heap.size 88 i0 _ 6 Tryz.underlying29 hi hz0 hz1 _ _ _ _ n rfl rfl rfl rfl ?b2 ?b3 ?b4 ?_)
  case b2 => rw [hz2]; omega
  case b3 => unfold maxLen; omega
  case b4 => exact Nat.le_refl _
  intro w1 hown hgrow
  rw [made_WireF n] at hown
  have hbel : Below w.heap.size w w1 := (Below.refl _ _).grown hgrow (Nat.le_refl _) (fun _ h => by cases h)
  clear hgrow
  obtain ⟨g, hg⟩ : ∃ g, g = w.heap.size := ⟨_, rfl⟩
  rw [← hg] at hown hbel ⊢
  have hlen := h.len
  replace hg : Hid (g = w.heap.size) := hg
  go_wp2
  go_loopw [4] (fun i wr => ∃ k : Nat, k ≤ n ∧ i = .int .i64 k ∧ (∃ done : List Rc, done.length = k ∧ Hid (done.map Rc.con = (xs.take k).map Rc.con) ∧ (∀ x ∈ done, ∀ f ∈ x, f.P wr (g + 1) wr.heap.size) ∧ (∀ x ∈ done, WireSh x) ∧ wr.ownsRow g 88 6 (.slice (some ⟨g, 0, none⟩) n n) n (flatF (done ++ List.replicate (n - k) [Fd.b false, Fd.s ByteArray.empty, Fd.i 0, Fd.i 0, Fd.r default, Fd.r default]))) ∧ Below g w wr)
    (fun i _ => n - (intOf i).toNat)
  case atStart => exact ⟨0, Nat.zero_le _, rfl, ⟨[], rfl, rfl, fun x hx => by simp at hx, fun x hx => by simp at hx, hown⟩, hbel⟩
  case round =>
    clear hown hbel
    obtain ⟨k, hk, rfl, ⟨done, hdl, hdc, hP, hsh, hO⟩, hbel⟩ := hrel
    rw [hg.out] at hbel
    by_cases hlt : k < n
    · have hgo := hg.out
      obtain ⟨b, o, x, rfl, hx, hxm, hc, hA, hS⟩ := (h.on hbel).at hlt
      have hxe : xs.take (k + 1) = xs.take k ++ [x] := by rw [take_getDF (by omega), hx]
      obtain ⟨tp, s, t, d, ⟨pa, na, ca, xsa⟩, ⟨pb, nb, cb, xsb⟩, rfl⟩ := hS
      have l0 : wr.cell? ⟨b, o + k * 6, none⟩ = some (.bool tp) := hc 0 _ rfl
      have l1 : wr.cell? ⟨b, o + k * 6 + 1, none⟩ = some (.string s) := hc 1 _ rfl
      have l2 : wr.cell? ⟨b, o + k * 6 + 2, none⟩ = some (.int .i64 t) := hc 2 _ rfl
      have l3 : wr.cell? ⟨b, o + k * 6 + 3, none⟩ = some (.int .i64 d) := hc 3 _ rfl
      have l4 : wr.cell? ⟨b, o + k * 6 + 4, none⟩ = some (.slice pa na ca) := hc 4 _ rfl
      have l5 : wr.cell? ⟨b, o + k * 6 + 5, none⟩ = some (.slice pb nb cb) := hc 5 _ rfl
      have oka : RwA.Ok wr ⟨pa, na, ca, xsa⟩ := (show Fd.A wr (Fd.r ⟨pa, na, ca, xsa⟩) from hA _ (by simp))
      have fa : na ≤ 1048576 := (show Fd.fit (Fd.r ⟨pa, na, ca, xsa⟩) from fit _ hxm _ (by simp))
      have okb : RwA.Ok wr ⟨pb, nb, cb, xsb⟩ := (show Fd.A wr (Fd.r ⟨pb, nb, cb, xsb⟩) from hA _ (by simp))
      have fb : nb ≤ 1048576 := (show Fd.fit (Fd.r ⟨pb, nb, cb, xsb⟩) from fit _ hxm _ (by simp))
      replace hdc : Hid (done.map Rc.con ++ [Rc.con [Fd.b tp, Fd.s s, Fd.i t, Fd.i d, Fd.r ⟨pa, na, ca, xsa⟩, Fd.r ⟨pb, nb, cb, xsb⟩]] = (xs.take (k + 1)).map Rc.con) := by
        rw [Hid, hxe, List.map_append, hdc.out]; rfl
      have hgw : g < wr.heap.size := (hO.lt g rfl).2
      clear hgo hx hxe hxm h fit hc
      go_wp2_with (fail)
      refine (toWire_own tp s t d pa na ca xsa pb nb cb xsb _ oka fa okb fb).mono ?_
      rintro z w2 ⟨qa, da, qb, db, rfl, Pa, Pb, b2⟩
      have hgo := hg.out
      have hO2 := owns_below hO b2
      have hbel2 := below_on hbel b2
      have hfl : (flatF done).length = k * 6 := by rw [flatF_length done 6 (fun x hx => wire_len x (hsh x hx)), hdl]
      have hrl : (flatF (done ++ List.replicate (n - k) [Fd.b false, Fd.s ByteArray.empty, Fd.i 0, Fd.i 0, Fd.r default, Fd.r default])).length = n * 6 := by rw [flatF_append, List.length_append, hfl, flatF_length _ 6 (fun x hx => by rw [(List.mem_replicate.1 hx).2]; rfl), List.length_replicate]; omega
      obtain ⟨u0, c0⟩ : ∃ u, w2.cell? ⟨g, k * 6, none⟩ = some u := by rw [hO2.cellAt _ (by omega)]; exact ⟨_, List.getElem?_eq_getElem (by (try simp only [List.length_set]); omega)⟩
      have f0 := hO2.frozenAt (k * 6)
      obtain ⟨u1, c1⟩ : ∃ u, (w2.setCell ⟨g, k * 6, none⟩ (.bool tp)).cell? ⟨g, k * 6 + 1, none⟩ = some u := by rw [(hO2.stored (k * 6) (.bool tp)).1.cellAt _ (by omega)]; exact ⟨_, List.getElem?_eq_getElem (by (try simp only [List.length_set]); omega)⟩
      have f1 := (hO2.stored (k * 6) (.bool tp)).1.frozenAt (k * 6 + 1)
      obtain ⟨u2, c2⟩ : ∃ u, ((w2.setCell ⟨g, k * 6, none⟩ (.bool tp)).setCell ⟨g, k * 6 + 1, none⟩ (.string s)).cell? ⟨g, k * 6 + 2, none⟩ = some u := by rw [((hO2.stored (k * 6) (.bool tp)).1.stored (k * 6 + 1) (.string s)).1.cellAt _ (by omega)]; exact ⟨_, List.getElem?_eq_getElem (by (try simp only [List.length_set]); omega)⟩
      have f2 := ((hO2.stored (k * 6) (.bool tp)).1.stored (k * 6 + 1) (.string s)).1.frozenAt (k * 6 + 2)
      obtain ⟨u3, c3⟩ : ∃ u, (((w2.setCell ⟨g, k * 6, none⟩ (.bool tp)).setCell ⟨g, k * 6 + 1, none⟩ (.string s)).setCell ⟨g, k * 6 + 2, none⟩ (.int .i64 t)).cell? ⟨g, k * 6 + 3, none⟩ = some u := by rw [(((hO2.stored (k * 6) (.bool tp)).1.stored (k * 6 + 1) (.string s)).1.stored (k * 6 + 2) (.int .i64 t)).1.cellAt _ (by omega)]; exact ⟨_, List.getElem?_eq_getElem (by (try simp only [List.length_set]); omega)⟩
      have f3 := (((hO2.stored (k * 6) (.bool tp)).1.stored (k * 6 + 1) (.string s)).1.stored (k * 6 + 2) (.int .i64 t)).1.frozenAt (k * 6 + 3)
      obtain ⟨u4, c4⟩ : ∃ u, ((((w2.setCell ⟨g, k * 6, none⟩ (.bool tp)).setCell ⟨g, k * 6 + 1, none⟩ (.string s)).setCell ⟨g, k * 6 + 2, none⟩ (.int .i64 t)).setCell ⟨g, k * 6 + 3, none⟩ (.int .i64 d)).cell? ⟨g, k * 6 + 4, none⟩ = some u := by rw [((((hO2.stored (k * 6) (.bool tp)).1.stored (k * 6 + 1) (.string s)).1.stored (k * 6 + 2) (.int .i64 t)).1.stored (k * 6 + 3) (.int .i64 d)).1.cellAt _ (by omega)]; exact ⟨_, List.getElem?_eq_getElem (by (try simp only [List.length_set]); omega)⟩
      have f4 := ((((hO2.stored (k * 6) (.bool tp)).1.stored (k * 6 + 1) (.string s)).1.stored (k * 6 + 2) (.int .i64 t)).1.stored (k * 6 + 3) (.int .i64 d)).1.frozenAt (k * 6 + 4)
      obtain ⟨u5, c5⟩ : ∃ u, (((((w2.setCell ⟨g, k * 6, none⟩ (.bool tp)).setCell ⟨g, k * 6 + 1, none⟩ (.string s)).setCell ⟨g, k * 6 + 2, none⟩ (.int .i64 t)).setCell ⟨g, k * 6 + 3, none⟩ (.int .i64 d)).setCell ⟨g, k * 6 + 4, none⟩ (.slice qa na da)).cell? ⟨g, k * 6 + 5, none⟩ = some u := by rw [(((((hO2.stored (k * 6) (.bool tp)).1.stored (k * 6 + 1) (.string s)).1.stored (k * 6 + 2) (.int .i64 t)).1.stored (k * 6 + 3) (.int .i64 d)).1.stored (k * 6 + 4) (.slice qa na da)).1.cellAt _ (by omega)]; exact ⟨_, List.getElem?_eq_getElem (by (try simp only [List.length_set]); omega)⟩
      have f5 := (((((hO2.stored (k * 6) (.bool tp)).1.stored (k * 6 + 1) (.string s)).1.stored (k * 6 + 2) (.int .i64 t)).1.stored (k * 6 + 3) (.int .i64 d)).1.stored (k * 6 + 4) (.slice qa na da)).1.frozenAt (k * 6 + 5)
      have hO3 := ((((((hO2.stored (k * 6) (.bool tp)).1.stored (k * 6 + 1) (.string s)).1.stored (k * 6 + 2) (.int .i64 t)).1.stored (k * 6 + 3) (.int .i64 d)).1.stored (k * 6 + 4) (.slice qa na da)).1.stored (k * 6 + 5) (.slice qb nb db)).1
      have hset : ((((((flatF (done ++ List.replicate (n - k) [Fd.b false, Fd.s ByteArray.empty, Fd.i 0, Fd.i 0, Fd.r default, Fd.r default])).set (k * 6) (.bool tp)).set (k * 6 + 1) (.string s)).set (k * 6 + 2) (.int .i64 t)).set (k * 6 + 3) (.int .i64 d)).set (k * 6 + 4) (.slice qa na da)).set (k * 6 + 5) (.slice qb nb db) = flatF ((done ++ [[Fd.b tp, Fd.s s, Fd.i t, Fd.i d, Fd.r ⟨qa, na, da, xsa⟩, Fd.r ⟨qb, nb, db, xsb⟩]]) ++ List.replicate (n - (k + 1)) [Fd.b false, Fd.s ByteArray.empty, Fd.i 0, Fd.i 0, Fd.r default, Fd.r default]) := by
        rw [show n - k = (n - (k + 1)) + 1 by omega, List.replicate_succ, flatF_append, flatF_cons, set_behind0 _ _ (k * 6) _ hfl, set_behind _ _ (k * 6) 1 _ hfl, set_behind _ _ (k * 6) 2 _ hfl, set_behind _ _ (k * 6) 3 _ hfl, set_behind _ _ (k * 6) 4 _ hfl, set_behind _ _ (k * 6) 5 _ hfl, flatF_append, flatF_append]
        simp [flatF, Rc.vals, Fd.val]
      rw [hset] at hO3
      have hn3 : Wn g (g + 1) w2 ((((((w2.setCell ⟨g, k * 6, none⟩ (.bool tp)).setCell ⟨g, k * 6 + 1, none⟩ (.string s)).setCell ⟨g, k * 6 + 2, none⟩ (.int .i64 t)).setCell ⟨g, k * 6 + 3, none⟩ (.int .i64 d)).setCell ⟨g, k * 6 + 4, none⟩ (.slice qa na da)).setCell ⟨g, k * 6 + 5, none⟩ (.slice qb nb db)) := (((((((Wn.refl g (g + 1) w2)).set ⟨g, k * 6, none⟩ (.bool tp) ⟨Nat.le_refl _, Nat.lt_succ_self _⟩).set ⟨g, k * 6 + 1, none⟩ (.string s) ⟨Nat.le_refl _, Nat.lt_succ_self _⟩).set ⟨g, k * 6 + 2, none⟩ (.int .i64 t) ⟨Nat.le_refl _, Nat.lt_succ_self _⟩).set ⟨g, k * 6 + 3, none⟩ (.int .i64 d) ⟨Nat.le_refl _, Nat.lt_succ_self _⟩).set ⟨g, k * 6 + 4, none⟩ (.slice qa na da) ⟨Nat.le_refl _, Nat.lt_succ_self _⟩).set ⟨g, k * 6 + 5, none⟩ (.slice qb nb db) ⟨Nat.le_refl _, Nat.lt_succ_self _⟩
      have hbel3 : Below w.heap.size w ((((((w2.setCell ⟨g, k * 6, none⟩ (.bool tp)).setCell ⟨g, k * 6 + 1, none⟩ (.string s)).setCell ⟨g, k * 6 + 2, none⟩ (.int .i64 t)).setCell ⟨g, k * 6 + 3, none⟩ (.int .i64 d)).setCell ⟨g, k * 6 + 4, none⟩ (.slice qa na da)).setCell ⟨g, k * 6 + 5, none⟩ (.slice qb nb db)) := hn3.low hbel2 (by omega) (by have := hbel2.size; omega)
      have hs2 := b2.size
      obtain ⟨X, hX⟩ : ∃ X, X = ((((((w2.setCell ⟨g, k * 6, none⟩ (.bool tp)).setCell ⟨g, k * 6 + 1, none⟩ (.string s)).setCell ⟨g, k * 6 + 2, none⟩ (.int .i64 t)).setCell ⟨g, k * 6 + 3, none⟩ (.int .i64 d)).setCell ⟨g, k * 6 + 4, none⟩ (.slice qa na da)).setCell ⟨g, k * 6 + 5, none⟩ (.slice qb nb db)) := ⟨_, rfl⟩
      rw [← hX] at hO3 hbel3 hn3
      replace hX : Hid (((((((w2.setCell ⟨g, k * 6, none⟩ (.bool tp)).setCell ⟨g, k * 6 + 1, none⟩ (.string s)).setCell ⟨g, k * 6 + 2, none⟩ (.int .i64 t)).setCell ⟨g, k * 6 + 3, none⟩ (.int .i64 d)).setCell ⟨g, k * 6 + 4, none⟩ (.slice qa na da)).setCell ⟨g, k * 6 + 5, none⟩ (.slice qb nb db)) = X) := hX.symm
      have hs3 := hn3.size
      have hP3 : ∀ x ∈ done, ∀ f ∈ x, f.P X (g + 1) X.heap.size := fun x hx f hf => (((hP x hx f hf).past (Wn.of_below (lo := 0) (hi := 0) b2) (Or.inr (Nat.zero_le _))).past hn3 (Or.inr (Nat.le_refl _))).wide (Nat.le_refl _) (by omega)
      have sS : Fd.P X (g + 1) X.heap.size (Fd.s s) := (show Fd.A wr (Fd.s s) from hA _ (by simp))
      have sT : Fd.P X (g + 1) X.heap.size (Fd.i t) := (show Fd.A wr (Fd.i t) from hA _ (by simp))
      have sD : Fd.P X (g + 1) X.heap.size (Fd.i d) := (show Fd.A wr (Fd.i d) from hA _ (by simp))
      have sB : Fd.P X (g + 1) X.heap.size (Fd.b tp) := trivial
      replace Pa := (Pa.past hn3 (Or.inr (by omega))).wide (lo' := g + 1) (hi' := X.heap.size) (by omega) (by omega)
      replace Pb := (Pb.past hn3 (Or.inr (by omega))).wide (lo' := g + 1) (hi' := X.heap.size) (by omega) (by omega)
      have hP4 : ∀ x ∈ done ++ [([Fd.b tp, Fd.s s, Fd.i t, Fd.i d, Fd.r ⟨qa, na, da, xsa⟩, Fd.r ⟨qb, nb, db, xsb⟩] : Rc)], ∀ f ∈ x, f.P X (g + 1) X.heap.size := fun x hx f hf => by
        rcases List.mem_append.1 hx with hx | hx
        · exact hP3 x hx f hf
        · rw [List.mem_singleton] at hx
          subst hx
          simp only [List.mem_cons, List.not_mem_nil, or_false] at hf
          rcases hf with rfl | rfl | rfl | rfl | rfl | rfl
          · exact sB
          · exact sS
          · exact sT
          · exact sD
          · exact Pa
          · exact Pb
      have hsh4 : ∀ x ∈ done ++ [([Fd.b tp, Fd.s s, Fd.i t, Fd.i d, Fd.r ⟨qa, na, da, xsa⟩, Fd.r ⟨qb, nb, db, xsb⟩] : Rc)], WireSh x := fun x hx => by
        rcases List.mem_append.1 hx with hx | hx
        · exact hsh x hx
        · rw [List.mem_singleton] at hx
          subst hx
          exact ⟨tp, s, t, d, _, _, rfl⟩
      have hnew : Hid ((done ++ [([Fd.b tp, Fd.s s, Fd.i t, Fd.i d, Fd.r ⟨qa, na, da, xsa⟩, Fd.r ⟨qb, nb, db, xsb⟩] : Rc)]).map Rc.con = (xs.take (k + 1)).map Rc.con) := by
        rw [Hid, List.map_append, ← hdc.out]; rfl
      rw [← hg.out] at hbel3
      clear hgo hset hO2 hO hbel hbel2 b2 hdc hP hP3 hsh hn3 hrl hfl hA
      go_wp2_with (rw [hX.out])
      go_roundw
      case rel => exact ⟨k + 1, by omega, by go_num, ⟨_, by simp [hdl], hnew, hP4, hsh4, hO3⟩, hbel3⟩
      case measure => simp [intOf]; omega
    · have hkn : k = n := by omega
      subst hkn
      rw [Nat.sub_self, List.replicate_zero, List.append_nil] at hO
      have hall : Hid (done.map Rc.con = xs.map Rc.con) := by rw [Hid, hdc.out, ← hlen, List.take_length]
      have hgw := (hO.lt g rfl).2
      have hcl : ∀ x ∈ done, x.length = 6 := fun x hx => wire_len x (hsh x hx)
      have hfl : (flatF done).length = k * 6 := by rw [flatF_length done 6 hcl, hdl]
      have hR : RecP wr g wr.heap.size 6 WireSh (some ⟨g, 0, none⟩) k done := by
        refine ⟨hn, hdl, fun _ => ⟨g, rfl, Nat.le_refl _, hgw, fun i hi => ⟨?_, hO.frozenAt i⟩, fun i j v hi hv => ?_, fun x hx r hr h0 => ?_⟩, fun x hx f hf => (hP x hx f hf).wide (by omega) (Nat.le_refl _), hsh⟩
        · rw [hO.cellAt i (by omega)]
          exact ⟨_, List.getElem?_eq_getElem (by omega)⟩
        · have hj : j < 6 := by
            have h1 := (List.getElem?_eq_some_iff.1 hv).1
            rw [Rc.vals, List.length_map, hcl _ (getD_memF (by omega))] at h1
            exact h1
          rw [hO.cellAt (i * 6 + j) (by omega), flatF_at done 6 hcl i j hj (by omega)]
          exact hv
        · obtain ⟨b, e, h1, _⟩ := RwA.P.lt (show RwA.P wr (g + 1) wr.heap.size r from hP x hx _ hr) h0
          exact ⟨b, e, by omega⟩
      clear hO hdc hP h fit
      rw [← hg.out] at hbel
      go_wp2_with (fail)
      go_ret
      rw [← hg.out]
      exact ⟨_, _, done, rfl, hR, hall, hbel⟩

theorem infoSentF : (Tryz.prog.info? 81).map (fun i => (i.zero, i.size, i.bytes)) = some (some (.agg #[.string ByteArray.empty, .int .i64 0, .slice none 0 0, .slice none 0 0]), 4, 72) := by kernel_rfl
theorem made_SentF (n : Nat) : (madeCells #[.string ByteArray.empty, .int .i64 0, .slice none 0 0, .slice none 0 0] (n * 4)).toList = flatF (List.replicate n [Fd.s ByteArray.empty, Fd.i 0, Fd.r default, Fd.r default]) := by
  induction n with
  | zero => simp [madeCells, flatF]
  | succ n ih =>
    rw [List.replicate_succ', flatF_append, ← ih]
    simp only [madeCells, Array.toList_map, Array.toList_range]
    rw [show (n + 1) * 4 = n * 4 + 4 by omega, List.range_add, List.map_append]
    congr 1
    have e : ∀ k, (n * 4 + k) % 4 = k % 4 := fun k => by omega
    simp [flatF, Rc.vals, Fd.val, List.range_succ, default, e]

set_option maxHeartbeats 8000000 in
theorem toSentSF_own (p : Option Addr) (n c : Nat) (xs : List Rc) (w : World) (hn : n ≤ 1048576) (h : RecA w 4 SentSh p n xs) (fit : ∀ x ∈ xs, ∀ f ∈ x, f.fit) :
    Calls Tryz.prog 46 #[.slice p n c] w fun e w' => ∃ p' c' xs', e = .returned (.slice p' n c') ∧ RecP w' w.heap.size w'.heap.size 4 SentSh p' n xs' ∧ Hid (xs'.map Rc.con = xs.map Rc.con) ∧ Below w.heap.size w w' := by
  obtain ⟨i0, hi, hz0, hz1, hz2⟩ := info_parts infoSentF
  go_enter Tryz.func46, Tryz.ntmps46
  go_wp2_with (at_make; refine wpList_make_full _ rfl _ _ 30 rfl w.heap.size 81 i0 _ 4 Tryz.underlying30 hi hz0 hz1 _ _ _ _ n rfl rfl rfl rfl ?b2 ?b3 ?b4 ?_)
  case b2 => rw [hz2]; omega
  case b3 => unfold maxLen; omega
  case b4 => exact Nat.le_refl _
  intro w1 hown hgrow
  rw [made_SentF n] at hown
  have hbel : Below w.heap.size w w1 := (Below.refl _ _).grown hgrow (Nat.le_refl _) (fun _ h => by cases h)
  clear hgrow
  obtain ⟨g, hg⟩ : ∃ g, g = w.heap.size := ⟨_, rfl⟩
  rw [← hg] at hown hbel ⊢
  have hlen := h.len
  replace hg : Hid (g = w.heap.size) := hg
  go_wp2
  go_loopw [4] (fun i wr => ∃ k : Nat, k ≤ n ∧ i = .int .i64 k ∧ (∃ done : List Rc, done.length = k ∧ Hid (done.map Rc.con = (xs.take k).map Rc.con) ∧ (∀ x ∈ done, ∀ f ∈ x, f.P wr (g + 1) wr.heap.size) ∧ (∀ x ∈ done, SentSh x) ∧ wr.ownsRow g 81 4 (.slice (some ⟨g, 0, none⟩) n n) n (flatF (done ++ List.replicate (n - k) [Fd.s ByteArray.empty, Fd.i 0, Fd.r default, Fd.r default]))) ∧ Below g w wr)
    (fun i _ => n - (intOf i).toNat)
  case atStart => exact ⟨0, Nat.zero_le _, rfl, ⟨[], rfl, rfl, fun x hx => by simp at hx, fun x hx => by simp at hx, hown⟩, hbel⟩
  case round =>
    clear hown hbel
    obtain ⟨k, hk, rfl, ⟨done, hdl, hdc, hP, hsh, hO⟩, hbel⟩ := hrel
    rw [hg.out] at hbel
    by_cases hlt : k < n
    · have hgo := hg.out
      obtain ⟨b, o, x, rfl, hx, hxm, hc, hA, hS⟩ := (h.on hbel).at hlt
      have hxe : xs.take (k + 1) = xs.take k ++ [x] := by rw [take_getDF (by omega), hx]
      obtain ⟨s, t, ⟨pa, na, ca, xsa⟩, ⟨pb, nb, cb, xsb⟩, rfl⟩ := hS
      have l0 : wr.cell? ⟨b, o + k * 4, none⟩ = some (.string s) := hc 0 _ rfl
      have l1 : wr.cell? ⟨b, o + k * 4 + 1, none⟩ = some (.int .i64 t) := hc 1 _ rfl
      have l2 : wr.cell? ⟨b, o + k * 4 + 2, none⟩ = some (.slice pa na ca) := hc 2 _ rfl
      have l3 : wr.cell? ⟨b, o + k * 4 + 3, none⟩ = some (.slice pb nb cb) := hc 3 _ rfl
      have oka : RwA.Ok wr ⟨pa, na, ca, xsa⟩ := (show Fd.A wr (Fd.r ⟨pa, na, ca, xsa⟩) from hA _ (by simp))
      have fa : na ≤ 1048576 := (show Fd.fit (Fd.r ⟨pa, na, ca, xsa⟩) from fit _ hxm _ (by simp))
      have okb : RwA.Ok wr ⟨pb, nb, cb, xsb⟩ := (show Fd.A wr (Fd.r ⟨pb, nb, cb, xsb⟩) from hA _ (by simp))
      have fb : nb ≤ 1048576 := (show Fd.fit (Fd.r ⟨pb, nb, cb, xsb⟩) from fit _ hxm _ (by simp))
      replace hdc : Hid (done.map Rc.con ++ [Rc.con [Fd.s s, Fd.i t, Fd.r ⟨pa, na, ca, xsa⟩, Fd.r ⟨pb, nb, cb, xsb⟩]] = (xs.take (k + 1)).map Rc.con) := by
        rw [Hid, hxe, List.map_append, hdc.out]; rfl
      have hgw : g < wr.heap.size := (hO.lt g rfl).2
      clear hgo hx hxe hxm h fit hc
      go_wp2_with (fail)
      refine (toSent_own s t pa na ca xsa pb nb cb xsb _ oka fa okb fb).mono ?_
      rintro z w2 ⟨qa, da, qb, db, rfl, Pa, Pb, b2⟩
      have hgo := hg.out
      have hO2 := owns_below hO b2
      have hbel2 := below_on hbel b2
      have hfl : (flatF done).length = k * 4 := by rw [flatF_length done 4 (fun x hx => sent_len x (hsh x hx)), hdl]
      have hrl : (flatF (done ++ List.replicate (n - k) [Fd.s ByteArray.empty, Fd.i 0, Fd.r default, Fd.r default])).length = n * 4 := by rw [flatF_append, List.length_append, hfl, flatF_length _ 4 (fun x hx => by rw [(List.mem_replicate.1 hx).2]; rfl), List.length_replicate]; omega
      obtain ⟨u0, c0⟩ : ∃ u, w2.cell? ⟨g, k * 4, none⟩ = some u := by rw [hO2.cellAt _ (by omega)]; exact ⟨_, List.getElem?_eq_getElem (by (try simp only [List.length_set]); omega)⟩
      have f0 := hO2.frozenAt (k * 4)
      obtain ⟨u1, c1⟩ : ∃ u, (w2.setCell ⟨g, k * 4, none⟩ (.string s)).cell? ⟨g, k * 4 + 1, none⟩ = some u := by rw [(hO2.stored (k * 4) (.string s)).1.cellAt _ (by omega)]; exact ⟨_, List.getElem?_eq_getElem (by (try simp only [List.length_set]); omega)⟩
      have f1 := (hO2.stored (k * 4) (.string s)).1.frozenAt (k * 4 + 1)
      obtain ⟨u2, c2⟩ : ∃ u, ((w2.setCell ⟨g, k * 4, none⟩ (.string s)).setCell ⟨g, k * 4 + 1, none⟩ (.int .i64 t)).cell? ⟨g, k * 4 + 2, none⟩ = some u := by rw [((hO2.stored (k * 4) (.string s)).1.stored (k * 4 + 1) (.int .i64 t)).1.cellAt _ (by omega)]; exact ⟨_, List.getElem?_eq_getElem (by (try simp only [List.length_set]); omega)⟩
      have f2 := ((hO2.stored (k * 4) (.string s)).1.stored (k * 4 + 1) (.int .i64 t)).1.frozenAt (k * 4 + 2)
      obtain ⟨u3, c3⟩ : ∃ u, (((w2.setCell ⟨g, k * 4, none⟩ (.string s)).setCell ⟨g, k * 4 + 1, none⟩ (.int .i64 t)).setCell ⟨g, k * 4 + 2, none⟩ (.slice qa na da)).cell? ⟨g, k * 4 + 3, none⟩ = some u := by rw [(((hO2.stored (k * 4) (.string s)).1.stored (k * 4 + 1) (.int .i64 t)).1.stored (k * 4 + 2) (.slice qa na da)).1.cellAt _ (by omega)]; exact ⟨_, List.getElem?_eq_getElem (by (try simp only [List.length_set]); omega)⟩
      have f3 := (((hO2.stored (k * 4) (.string s)).1.stored (k * 4 + 1) (.int .i64 t)).1.stored (k * 4 + 2) (.slice qa na da)).1.frozenAt (k * 4 + 3)
      have hO3 := ((((hO2.stored (k * 4) (.string s)).1.stored (k * 4 + 1) (.int .i64 t)).1.stored (k * 4 + 2) (.slice qa na da)).1.stored (k * 4 + 3) (.slice qb nb db)).1
      have hset : ((((flatF (done ++ List.replicate (n - k) [Fd.s ByteArray.empty, Fd.i 0, Fd.r default, Fd.r default])).set (k * 4) (.string s)).set (k * 4 + 1) (.int .i64 t)).set (k * 4 + 2) (.slice qa na da)).set (k * 4 + 3) (.slice qb nb db) = flatF ((done ++ [[Fd.s s, Fd.i t, Fd.r ⟨qa, na, da, xsa⟩, Fd.r ⟨qb, nb, db, xsb⟩]]) ++ List.replicate (n - (k + 1)) [Fd.s ByteArray.empty, Fd.i 0, Fd.r default, Fd.r default]) := by
        rw [show n - k = (n - (k + 1)) + 1 by omega, List.replicate_succ, flatF_append, flatF_cons, set_behind0 _ _ (k * 4) _ hfl, set_behind _ _ (k * 4) 1 _ hfl, set_behind _ _ (k * 4) 2 _ hfl, set_behind _ _ (k * 4) 3 _ hfl, flatF_append, flatF_append]
        simp [flatF, Rc.vals, Fd.val]
      rw [hset] at hO3
      have hn3 : Wn g (g + 1) w2 ((((w2.setCell ⟨g, k * 4, none⟩ (.string s)).setCell ⟨g, k * 4 + 1, none⟩ (.int .i64 t)).setCell ⟨g, k * 4 + 2, none⟩ (.slice qa na da)).setCell ⟨g, k * 4 + 3, none⟩ (.slice qb nb db)) := (((((Wn.refl g (g + 1) w2)).set ⟨g, k * 4, none⟩ (.string s) ⟨Nat.le_refl _, Nat.lt_succ_self _⟩).set ⟨g, k * 4 + 1, none⟩ (.int .i64 t) ⟨Nat.le_refl _, Nat.lt_succ_self _⟩).set ⟨g, k * 4 + 2, none⟩ (.slice qa na da) ⟨Nat.le_refl _, Nat.lt_succ_self _⟩).set ⟨g, k * 4 + 3, none⟩ (.slice qb nb db) ⟨Nat.le_refl _, Nat.lt_succ_self _⟩
      have hbel3 : Below w.heap.size w ((((w2.setCell ⟨g, k * 4, none⟩ (.string s)).setCell ⟨g, k * 4 + 1, none⟩ (.int .i64 t)).setCell ⟨g, k * 4 + 2, none⟩ (.slice qa na da)).setCell ⟨g, k * 4 + 3, none⟩ (.slice qb nb db)) := hn3.low hbel2 (by omega) (by have := hbel2.size; omega)
      have hs2 := b2.size
      obtain ⟨X, hX⟩ : ∃ X, X = ((((w2.setCell ⟨g, k * 4, none⟩ (.string s)).setCell ⟨g, k * 4 + 1, none⟩ (.int .i64 t)).setCell ⟨g, k * 4 + 2, none⟩ (.slice qa na da)).setCell ⟨g, k * 4 + 3, none⟩ (.slice qb nb db)) := ⟨_, rfl⟩
      rw [← hX] at hO3 hbel3 hn3
      replace hX : Hid (((((w2.setCell ⟨g, k * 4, none⟩ (.string s)).setCell ⟨g, k * 4 + 1, none⟩ (.int .i64 t)).setCell ⟨g, k * 4 + 2, none⟩ (.slice qa na da)).setCell ⟨g, k * 4 + 3, none⟩ (.slice qb nb db)) = X) := hX.symm
      have hs3 := hn3.size
      have hP3 : ∀ x ∈ done, ∀ f ∈ x, f.P X (g + 1) X.heap.size := fun x hx f hf => (((hP x hx f hf).past (Wn.of_below (lo := 0) (hi := 0) b2) (Or.inr (Nat.zero_le _))).past hn3 (Or.inr (Nat.le_refl _))).wide (Nat.le_refl _) (by omega)
      have sS : Fd.P X (g + 1) X.heap.size (Fd.s s) := (show Fd.A wr (Fd.s s) from hA _ (by simp))
      have sT : Fd.P X (g + 1) X.heap.size (Fd.i t) := (show Fd.A wr (Fd.i t) from hA _ (by simp))
      replace Pa := (Pa.past hn3 (Or.inr (by omega))).wide (lo' := g + 1) (hi' := X.heap.size) (by omega) (by omega)
      replace Pb := (Pb.past hn3 (Or.inr (by omega))).wide (lo' := g + 1) (hi' := X.heap.size) (by omega) (by omega)
      have hP4 : ∀ x ∈ done ++ [([Fd.s s, Fd.i t, Fd.r ⟨qa, na, da, xsa⟩, Fd.r ⟨qb, nb, db, xsb⟩] : Rc)], ∀ f ∈ x, f.P X (g + 1) X.heap.size := fun x hx f hf => by
        rcases List.mem_append.1 hx with hx | hx
        · exact hP3 x hx f hf
        · rw [List.mem_singleton] at hx
          subst hx
          simp only [List.mem_cons, List.not_mem_nil, or_false] at hf
          rcases hf with rfl | rfl | rfl | rfl
          · exact sS
          · exact sT
          · exact Pa
          · exact Pb
      have hsh4 : ∀ x ∈ done ++ [([Fd.s s, Fd.i t, Fd.r ⟨qa, na, da, xsa⟩, Fd.r ⟨qb, nb, db, xsb⟩] : Rc)], SentSh x := fun x hx => by
        rcases List.mem_append.1 hx with hx | hx
        · exact hsh x hx
        · rw [List.mem_singleton] at hx
          subst hx
          exact ⟨s, t, _, _, rfl⟩
      have hnew : Hid ((done ++ [([Fd.s s, Fd.i t, Fd.r ⟨qa, na, da, xsa⟩, Fd.r ⟨qb, nb, db, xsb⟩] : Rc)]).map Rc.con = (xs.take (k + 1)).map Rc.con) := by
        rw [Hid, List.map_append, ← hdc.out]; rfl
      rw [← hg.out] at hbel3
      clear hgo hset hO2 hO hbel hbel2 b2 hdc hP hP3 hsh hn3 hrl hfl hA
      go_wp2_with (rw [hX.out])
      go_roundw
      case rel => exact ⟨k + 1, by omega, by go_num, ⟨_, by simp [hdl], hnew, hP4, hsh4, hO3⟩, hbel3⟩
      case measure => simp [intOf]; omega
    · have hkn : k = n := by omega
      subst hkn
      rw [Nat.sub_self, List.replicate_zero, List.append_nil] at hO
      have hall : Hid (done.map Rc.con = xs.map Rc.con) := by rw [Hid, hdc.out, ← hlen, List.take_length]
      have hgw := (hO.lt g rfl).2
      have hcl : ∀ x ∈ done, x.length = 4 := fun x hx => sent_len x (hsh x hx)
      have hfl : (flatF done).length = k * 4 := by rw [flatF_length done 4 hcl, hdl]
      have hR : RecP wr g wr.heap.size 4 SentSh (some ⟨g, 0, none⟩) k done := by
        refine ⟨hn, hdl, fun _ => ⟨g, rfl, Nat.le_refl _, hgw, fun i hi => ⟨?_, hO.frozenAt i⟩, fun i j v hi hv => ?_, fun x hx r hr h0 => ?_⟩, fun x hx f hf => (hP x hx f hf).wide (by omega) (Nat.le_refl _), hsh⟩
        · rw [hO.cellAt i (by omega)]
          exact ⟨_, List.getElem?_eq_getElem (by omega)⟩
        · have hj : j < 4 := by
            have h1 := (List.getElem?_eq_some_iff.1 hv).1
            rw [Rc.vals, List.length_map, hcl _ (getD_memF (by omega))] at h1
            exact h1
          rw [hO.cellAt (i * 4 + j) (by omega), flatF_at done 4 hcl i j hj (by omega)]
          exact hv
        · obtain ⟨b, e, h1, _⟩ := RwA.P.lt (show RwA.P wr (g + 1) wr.heap.size r from hP x hx _ hr) h0
          exact ⟨b, e, by omega⟩
      clear hO hdc hP h fit
      rw [← hg.out] at hbel
      go_wp2_with (fail)
      go_ret
      rw [← hg.out]
      exact ⟨_, _, done, rfl, hR, hall, hbel⟩

theorem infoItemF : (Tryz.prog.info? 84).map (fun i => (i.zero, i.size, i.bytes)) = some (some (.agg #[.string ByteArray.empty, .int .i64 0, .int .i64 0, .slice none 0 0]), 4, 56) := by kernel_rfl
theorem made_ItemF (n : Nat) : (madeCells #[.string ByteArray.empty, .int .i64 0, .int .i64 0, .slice none 0 0] (n * 4)).toList = flatF (List.replicate n [Fd.s ByteArray.empty, Fd.i 0, Fd.i 0, Fd.r default]) := by
  induction n with
  | zero => simp [madeCells, flatF]
  | succ n ih =>
    rw [List.replicate_succ', flatF_append, ← ih]
    simp only [madeCells, Array.toList_map, Array.toList_range]
    rw [show (n + 1) * 4 = n * 4 + 4 by omega, List.range_add, List.map_append]
    congr 1
    have e : ∀ k, (n * 4 + k) % 4 = k % 4 := fun k => by omega
    simp [flatF, Rc.vals, Fd.val, List.range_succ, default, e]

set_option maxHeartbeats 8000000 in
theorem toItemSF_own (p : Option Addr) (n c : Nat) (xs : List Rc) (w : World) (hn : n ≤ 1048576) (h : RecA w 4 ItemSh p n xs) (fit : ∀ x ∈ xs, ∀ f ∈ x, f.fit) :
    Calls Tryz.prog 82 #[.slice p n c] w fun e w' => ∃ p' c' xs', e = .returned (.slice p' n c') ∧ RecP w' w.heap.size w'.heap.size 4 ItemSh p' n xs' ∧ Hid (xs'.map Rc.con = xs.map Rc.con) ∧ Below w.heap.size w w' := by
  obtain ⟨i0, hi, hz0, hz1, hz2⟩ := info_parts infoItemF
  go_enter Tryz.func82, Tryz.ntmps82
  go_wp2_with (at_make; refine wpList_make_full _ rfl _ _ 23 rfl w.heap.size 84 i0 _ 4 Tryz.underlying23 hi hz0 hz1 _ _ _ _ n rfl rfl rfl rfl ?b2 ?b3 ?b4 ?_)
  case b2 => rw [hz2]; omega
  case b3 => unfold maxLen; omega
  case b4 => exact Nat.le_refl _
  intro w1 hown hgrow
  rw [made_ItemF n] at hown
  have hbel : Below w.heap.size w w1 := (Below.refl _ _).grown hgrow (Nat.le_refl _) (fun _ h => by cases h)
  clear hgrow
  obtain ⟨g, hg⟩ : ∃ g, g = w.heap.size := ⟨_, rfl⟩
  rw [← hg] at hown hbel ⊢
  have hlen := h.len
  replace hg : Hid (g = w.heap.size) := hg
  go_wp2
  go_loopw [4] (fun i wr => ∃ k : Nat, k ≤ n ∧ i = .int .i64 k ∧ (∃ done : List Rc, done.length = k ∧ Hid (done.map Rc.con = (xs.take k).map Rc.con) ∧ (∀ x ∈ done, ∀ f ∈ x, f.P wr (g + 1) wr.heap.size) ∧ (∀ x ∈ done, ItemSh x) ∧ wr.ownsRow g 84 4 (.slice (some ⟨g, 0, none⟩) n n) n (flatF (done ++ List.replicate (n - k) [Fd.s ByteArray.empty, Fd.i 0, Fd.i 0, Fd.r default]))) ∧ Below g w wr)
    (fun i _ => n - (intOf i).toNat)
  case atStart => exact ⟨0, Nat.zero_le _, rfl, ⟨[], rfl, rfl, fun x hx => by simp at hx, fun x hx => by simp at hx, hown⟩, hbel⟩
  case round =>
    clear hown hbel
    obtain ⟨k, hk, rfl, ⟨done, hdl, hdc, hP, hsh, hO⟩, hbel⟩ := hrel
    rw [hg.out] at hbel
    by_cases hlt : k < n
    · have hgo := hg.out
      obtain ⟨b, o, x, rfl, hx, hxm, hc, hA, hS⟩ := (h.on hbel).at hlt
      have hxe : xs.take (k + 1) = xs.take k ++ [x] := by rw [take_getDF (by omega), hx]
      obtain ⟨s, t, d, ⟨pa, na, ca, xsa⟩, rfl⟩ := hS
      have l0 : wr.cell? ⟨b, o + k * 4, none⟩ = some (.string s) := hc 0 _ rfl
      have l1 : wr.cell? ⟨b, o + k * 4 + 1, none⟩ = some (.int .i64 t) := hc 1 _ rfl
      have l2 : wr.cell? ⟨b, o + k * 4 + 2, none⟩ = some (.int .i64 d) := hc 2 _ rfl
      have l3 : wr.cell? ⟨b, o + k * 4 + 3, none⟩ = some (.slice pa na ca) := hc 3 _ rfl
      have oka : RwA.Ok wr ⟨pa, na, ca, xsa⟩ := (show Fd.A wr (Fd.r ⟨pa, na, ca, xsa⟩) from hA _ (by simp))
      have fa : na ≤ 1048576 := (show Fd.fit (Fd.r ⟨pa, na, ca, xsa⟩) from fit _ hxm _ (by simp))
      replace hdc : Hid (done.map Rc.con ++ [Rc.con [Fd.s s, Fd.i t, Fd.i d, Fd.r ⟨pa, na, ca, xsa⟩]] = (xs.take (k + 1)).map Rc.con) := by
        rw [Hid, hxe, List.map_append, hdc.out]; rfl
      have hgw : g < wr.heap.size := (hO.lt g rfl).2
      clear hgo hx hxe hxm h fit hc
      go_wp2_with (fail)
      refine (toItem_own s t d pa na ca xsa _ fa oka.len oka.bytes).mono ?_
      rintro z w2 ⟨qa, da, rfl, Ra, b2⟩
      have hgo := hg.out
      have hO2 := owns_below hO b2
      have hbel2 := below_on hbel b2
      have Pa := RwA.P.of_own Ra oka.hn oka.byte
      have hfl : (flatF done).length = k * 4 := by rw [flatF_length done 4 (fun x hx => item_len x (hsh x hx)), hdl]
      have hrl : (flatF (done ++ List.replicate (n - k) [Fd.s ByteArray.empty, Fd.i 0, Fd.i 0, Fd.r default])).length = n * 4 := by rw [flatF_append, List.length_append, hfl, flatF_length _ 4 (fun x hx => by rw [(List.mem_replicate.1 hx).2]; rfl), List.length_replicate]; omega
      obtain ⟨u0, c0⟩ : ∃ u, w2.cell? ⟨g, k * 4, none⟩ = some u := by rw [hO2.cellAt _ (by omega)]; exact ⟨_, List.getElem?_eq_getElem (by (try simp only [List.length_set]); omega)⟩
      have f0 := hO2.frozenAt (k * 4)
      obtain ⟨u1, c1⟩ : ∃ u, (w2.setCell ⟨g, k * 4, none⟩ (.string s)).cell? ⟨g, k * 4 + 1, none⟩ = some u := by rw [(hO2.stored (k * 4) (.string s)).1.cellAt _ (by omega)]; exact ⟨_, List.getElem?_eq_getElem (by (try simp only [List.length_set]); omega)⟩
      have f1 := (hO2.stored (k * 4) (.string s)).1.frozenAt (k * 4 + 1)
      obtain ⟨u2, c2⟩ : ∃ u, ((w2.setCell ⟨g, k * 4, none⟩ (.string s)).setCell ⟨g, k * 4 + 1, none⟩ (.int .i64 t)).cell? ⟨g, k * 4 + 2, none⟩ = some u := by rw [((hO2.stored (k * 4) (.string s)).1.stored (k * 4 + 1) (.int .i64 t)).1.cellAt _ (by omega)]; exact ⟨_, List.getElem?_eq_getElem (by (try simp only [List.length_set]); omega)⟩
      have f2 := ((hO2.stored (k * 4) (.string s)).1.stored (k * 4 + 1) (.int .i64 t)).1.frozenAt (k * 4 + 2)
      obtain ⟨u3, c3⟩ : ∃ u, (((w2.setCell ⟨g, k * 4, none⟩ (.string s)).setCell ⟨g, k * 4 + 1, none⟩ (.int .i64 t)).setCell ⟨g, k * 4 + 2, none⟩ (.int .i64 d)).cell? ⟨g, k * 4 + 3, none⟩ = some u := by rw [(((hO2.stored (k * 4) (.string s)).1.stored (k * 4 + 1) (.int .i64 t)).1.stored (k * 4 + 2) (.int .i64 d)).1.cellAt _ (by omega)]; exact ⟨_, List.getElem?_eq_getElem (by (try simp only [List.length_set]); omega)⟩
      have f3 := (((hO2.stored (k * 4) (.string s)).1.stored (k * 4 + 1) (.int .i64 t)).1.stored (k * 4 + 2) (.int .i64 d)).1.frozenAt (k * 4 + 3)
      have hO3 := ((((hO2.stored (k * 4) (.string s)).1.stored (k * 4 + 1) (.int .i64 t)).1.stored (k * 4 + 2) (.int .i64 d)).1.stored (k * 4 + 3) (.slice qa na da)).1
      have hset : ((((flatF (done ++ List.replicate (n - k) [Fd.s ByteArray.empty, Fd.i 0, Fd.i 0, Fd.r default])).set (k * 4) (.string s)).set (k * 4 + 1) (.int .i64 t)).set (k * 4 + 2) (.int .i64 d)).set (k * 4 + 3) (.slice qa na da) = flatF ((done ++ [[Fd.s s, Fd.i t, Fd.i d, Fd.r ⟨qa, na, da, xsa⟩]]) ++ List.replicate (n - (k + 1)) [Fd.s ByteArray.empty, Fd.i 0, Fd.i 0, Fd.r default]) := by
        rw [show n - k = (n - (k + 1)) + 1 by omega, List.replicate_succ, flatF_append, flatF_cons, set_behind0 _ _ (k * 4) _ hfl, set_behind _ _ (k * 4) 1 _ hfl, set_behind _ _ (k * 4) 2 _ hfl, set_behind _ _ (k * 4) 3 _ hfl, flatF_append, flatF_append]
        simp [flatF, Rc.vals, Fd.val]
      rw [hset] at hO3
      have hn3 : Wn g (g + 1) w2 ((((w2.setCell ⟨g, k * 4, none⟩ (.string s)).setCell ⟨g, k * 4 + 1, none⟩ (.int .i64 t)).setCell ⟨g, k * 4 + 2, none⟩ (.int .i64 d)).setCell ⟨g, k * 4 + 3, none⟩ (.slice qa na da)) := (((((Wn.refl g (g + 1) w2)).set ⟨g, k * 4, none⟩ (.string s) ⟨Nat.le_refl _, Nat.lt_succ_self _⟩).set ⟨g, k * 4 + 1, none⟩ (.int .i64 t) ⟨Nat.le_refl _, Nat.lt_succ_self _⟩).set ⟨g, k * 4 + 2, none⟩ (.int .i64 d) ⟨Nat.le_refl _, Nat.lt_succ_self _⟩).set ⟨g, k * 4 + 3, none⟩ (.slice qa na da) ⟨Nat.le_refl _, Nat.lt_succ_self _⟩
      have hbel3 : Below w.heap.size w ((((w2.setCell ⟨g, k * 4, none⟩ (.string s)).setCell ⟨g, k * 4 + 1, none⟩ (.int .i64 t)).setCell ⟨g, k * 4 + 2, none⟩ (.int .i64 d)).setCell ⟨g, k * 4 + 3, none⟩ (.slice qa na da)) := hn3.low hbel2 (by omega) (by have := hbel2.size; omega)
      have hs2 := b2.size
      obtain ⟨X, hX⟩ : ∃ X, X = ((((w2.setCell ⟨g, k * 4, none⟩ (.string s)).setCell ⟨g, k * 4 + 1, none⟩ (.int .i64 t)).setCell ⟨g, k * 4 + 2, none⟩ (.int .i64 d)).setCell ⟨g, k * 4 + 3, none⟩ (.slice qa na da)) := ⟨_, rfl⟩
      rw [← hX] at hO3 hbel3 hn3
      replace hX : Hid (((((w2.setCell ⟨g, k * 4, none⟩ (.string s)).setCell ⟨g, k * 4 + 1, none⟩ (.int .i64 t)).setCell ⟨g, k * 4 + 2, none⟩ (.int .i64 d)).setCell ⟨g, k * 4 + 3, none⟩ (.slice qa na da)) = X) := hX.symm
      have hs3 := hn3.size
      have hP3 : ∀ x ∈ done, ∀ f ∈ x, f.P X (g + 1) X.heap.size := fun x hx f hf => (((hP x hx f hf).past (Wn.of_below (lo := 0) (hi := 0) b2) (Or.inr (Nat.zero_le _))).past hn3 (Or.inr (Nat.le_refl _))).wide (Nat.le_refl _) (by omega)
      have sS : Fd.P X (g + 1) X.heap.size (Fd.s s) := (show Fd.A wr (Fd.s s) from hA _ (by simp))
      have sT : Fd.P X (g + 1) X.heap.size (Fd.i t) := (show Fd.A wr (Fd.i t) from hA _ (by simp))
      have sD : Fd.P X (g + 1) X.heap.size (Fd.i d) := (show Fd.A wr (Fd.i d) from hA _ (by simp))
      replace Pa := (Pa.past hn3 (Or.inr (by omega))).wide (lo' := g + 1) (hi' := X.heap.size) (by omega) (by omega)
      have hP4 : ∀ x ∈ done ++ [([Fd.s s, Fd.i t, Fd.i d, Fd.r ⟨qa, na, da, xsa⟩] : Rc)], ∀ f ∈ x, f.P X (g + 1) X.heap.size := fun x hx f hf => by
        rcases List.mem_append.1 hx with hx | hx
        · exact hP3 x hx f hf
        · rw [List.mem_singleton] at hx
          subst hx
          simp only [List.mem_cons, List.not_mem_nil, or_false] at hf
          rcases hf with rfl | rfl | rfl | rfl
          · exact sS
          · exact sT
          · exact sD
          · exact Pa
      have hsh4 : ∀ x ∈ done ++ [([Fd.s s, Fd.i t, Fd.i d, Fd.r ⟨qa, na, da, xsa⟩] : Rc)], ItemSh x := fun x hx => by
        rcases List.mem_append.1 hx with hx | hx
        · exact hsh x hx
        · rw [List.mem_singleton] at hx
          subst hx
          exact ⟨s, t, d, _, rfl⟩
      have hnew : Hid ((done ++ [([Fd.s s, Fd.i t, Fd.i d, Fd.r ⟨qa, na, da, xsa⟩] : Rc)]).map Rc.con = (xs.take (k + 1)).map Rc.con) := by
        rw [Hid, List.map_append, ← hdc.out]; rfl
      rw [← hg.out] at hbel3
      clear hgo hset hO2 hO hbel hbel2 b2 hdc hP hP3 hsh hn3 hrl hfl hA
      go_wp2_with (rw [hX.out])
      go_roundw
      case rel => exact ⟨k + 1, by omega, by go_num, ⟨_, by simp [hdl], hnew, hP4, hsh4, hO3⟩, hbel3⟩
      case measure => simp [intOf]; omega
    · have hkn : k = n := by omega
      subst hkn
      rw [Nat.sub_self, List.replicate_zero, List.append_nil] at hO
      have hall : Hid (done.map Rc.con = xs.map Rc.con) := by rw [Hid, hdc.out, ← hlen, List.take_length]
      have hgw := (hO.lt g rfl).2
      have hcl : ∀ x ∈ done, x.length = 4 := fun x hx => item_len x (hsh x hx)
      have hfl : (flatF done).length = k * 4 := by rw [flatF_length done 4 hcl, hdl]
      have hR : RecP wr g wr.heap.size 4 ItemSh (some ⟨g, 0, none⟩) k done := by
        refine ⟨hn, hdl, fun _ => ⟨g, rfl, Nat.le_refl _, hgw, fun i hi => ⟨?_, hO.frozenAt i⟩, fun i j v hi hv => ?_, fun x hx r hr h0 => ?_⟩, fun x hx f hf => (hP x hx f hf).wide (by omega) (Nat.le_refl _), hsh⟩
        · rw [hO.cellAt i (by omega)]
          exact ⟨_, List.getElem?_eq_getElem (by omega)⟩
        · have hj : j < 4 := by
            have h1 := (List.getElem?_eq_some_iff.1 hv).1
            rw [Rc.vals, List.length_map, hcl _ (getD_memF (by omega))] at h1
            exact h1
          rw [hO.cellAt (i * 4 + j) (by omega), flatF_at done 4 hcl i j hj (by omega)]
          exact hv
        · obtain ⟨b, e, h1, _⟩ := RwA.P.lt (show RwA.P wr (g + 1) wr.heap.size r from hP x hx _ hr) h0
          exact ⟨b, e, by omega⟩
      clear hO hdc hP h fit
      rw [← hg.out] at hbel
      go_wp2_with (fail)
      go_ret
      rw [← hg.out]
      exact ⟨_, _, done, rfl, hR, hall, hbel⟩

theorem infoByteF : (Tryz.prog.info? 22).map (fun i => (i.zero, i.size, i.bytes)) = some (some (.slice none 0 0), 1, 24) := by kernel_rfl
theorem made_ByteF (n : Nat) : (madeCells #[.slice none 0 0] (n * 1)).toList = flatF (List.replicate n [Fd.r default]) := by
  rw [Nat.mul_one, toList_madeCells_one]
  induction n with
  | zero => rfl
  | succ n ih => rw [List.replicate_succ, List.replicate_succ, flatF_cons, ← ih]; rfl

set_option maxHeartbeats 8000000 in
theorem toByteSSF_own (p : Option Addr) (n c : Nat) (xs : List Rc) (w : World) (hn : n ≤ 1048576) (h : RecA w 1 RowSh p n xs) (fit : ∀ x ∈ xs, ∀ f ∈ x, f.fit) :
    Calls Tryz.prog 83 #[.slice p n c] w fun e w' => ∃ p' c' xs', e = .returned (.slice p' n c') ∧ RecP w' w.heap.size w'.heap.size 1 RowSh p' n xs' ∧ Hid (xs'.map Rc.con = xs.map Rc.con) ∧ Below w.heap.size w w' := by
  obtain ⟨i0, hi, hz0, hz1, hz2⟩ := info_parts infoByteF
  go_enter Tryz.func83, Tryz.ntmps83
  go_wp2_with (at_make; refine wpList_make_full _ rfl _ _ 26 rfl w.heap.size 22 i0 _ 1 Tryz.underlying26 hi hz0 hz1 _ _ _ _ n rfl rfl rfl rfl ?b2 ?b3 ?b4 ?_)
  case b2 => rw [hz2]; omega
  case b3 => unfold maxLen; omega
  case b4 => exact Nat.le_refl _
  intro w1 hown hgrow
  rw [show (madeCells #[Value.slice none 0 0] n).toList = flatF (List.replicate n [Fd.r default]) by have q := made_ByteF n; rwa [Nat.mul_one] at q] at hown
  have hbel : Below w.heap.size w w1 := (Below.refl _ _).grown hgrow (Nat.le_refl _) (fun _ h => by cases h)
  clear hgrow
  obtain ⟨g, hg⟩ : ∃ g, g = w.heap.size := ⟨_, rfl⟩
  rw [← hg] at hown hbel ⊢
  have hlen := h.len
  replace hg : Hid (g = w.heap.size) := hg
  go_wp2
  go_loopw [4] (fun i wr => ∃ k : Nat, k ≤ n ∧ i = .int .i64 k ∧ (∃ done : List Rc, done.length = k ∧ Hid (done.map Rc.con = (xs.take k).map Rc.con) ∧ (∀ x ∈ done, ∀ f ∈ x, f.P wr (g + 1) wr.heap.size) ∧ (∀ x ∈ done, RowSh x) ∧ wr.ownsRow g 22 1 (.slice (some ⟨g, 0, none⟩) n n) n (flatF (done ++ List.replicate (n - k) [Fd.r default]))) ∧ Below g w wr)
    (fun i _ => n - (intOf i).toNat)
  case atStart => exact ⟨0, Nat.zero_le _, rfl, ⟨[], rfl, rfl, fun x hx => by simp at hx, fun x hx => by simp at hx, hown⟩, hbel⟩
  case round =>
    clear hown hbel
    obtain ⟨k, hk, rfl, ⟨done, hdl, hdc, hP, hsh, hO⟩, hbel⟩ := hrel
    rw [hg.out] at hbel
    by_cases hlt : k < n
    · have hgo := hg.out
      obtain ⟨b, o, x, rfl, hx, hxm, hc, hA, hS⟩ := (h.on hbel).at hlt
      have hxe : xs.take (k + 1) = xs.take k ++ [x] := by rw [take_getDF (by omega), hx]
      obtain ⟨⟨pa, na, ca, xsa⟩, rfl⟩ := hS
      have l0 : wr.cell? ⟨b, o + k, none⟩ = some (.slice pa na ca) := by have q := hc 0 _ rfl; rw [Nat.mul_one] at q; exact q
      have oka : RwA.Ok wr ⟨pa, na, ca, xsa⟩ := (show Fd.A wr (Fd.r ⟨pa, na, ca, xsa⟩) from hA _ (by simp))
      have fa : na ≤ 1048576 := (show Fd.fit (Fd.r ⟨pa, na, ca, xsa⟩) from fit _ hxm _ (by simp))
      replace hdc : Hid (done.map Rc.con ++ [Rc.con [Fd.r ⟨pa, na, ca, xsa⟩]] = (xs.take (k + 1)).map Rc.con) := by
        rw [Hid, hxe, List.map_append, hdc.out]; rfl
      have hgw : g < wr.heap.size := (hO.lt g rfl).2
      clear hgo hx hxe hxm h fit hc
      go_wp2_with (fail)
      refine (toByteS_own pa na ca xsa _ fa oka.len oka.bytes).mono ?_
      rintro z w2 ⟨qa, da, rfl, Ra, b2⟩
      have hgo := hg.out
      have hO2 := owns_below hO b2
      have hbel2 := below_on hbel b2
      have Pa := RwA.P.of_own Ra oka.hn oka.byte
      have hfl : (flatF done).length = k * 1 := by rw [flatF_length done 1 (fun x hx => row_len x (hsh x hx)), hdl]
      have hrl : (flatF (done ++ List.replicate (n - k) [Fd.r default])).length = n * 1 := by rw [flatF_append, List.length_append, hfl, flatF_length _ 1 (fun x hx => by rw [(List.mem_replicate.1 hx).2]; rfl), List.length_replicate]; omega
      obtain ⟨u0, c0⟩ : ∃ u, w2.cell? ⟨g, k, none⟩ = some u := by rw [hO2.cellAt _ (by omega)]; exact ⟨_, List.getElem?_eq_getElem (by (try simp only [List.length_set]); omega)⟩
      have f0 := hO2.frozenAt k
      have hO3 := (hO2.stored (k) (.slice qa na da)).1
      have hset : (flatF (done ++ List.replicate (n - k) [Fd.r default])).set (k) (.slice qa na da) = flatF ((done ++ [[Fd.r ⟨qa, na, da, xsa⟩]]) ++ List.replicate (n - (k + 1)) [Fd.r default]) := by
        rw [show n - k = (n - (k + 1)) + 1 by omega, List.replicate_succ, flatF_append, flatF_cons, set_behind0 _ _ k _ (by rw [hfl, Nat.mul_one]), flatF_append, flatF_append]
        simp [flatF, Rc.vals, Fd.val]
      rw [hset] at hO3
      have hn3 : Wn g (g + 1) w2 (w2.setCell ⟨g, k, none⟩ (.slice qa na da)) := ((Wn.refl g (g + 1) w2)).set ⟨g, k, none⟩ (.slice qa na da) ⟨Nat.le_refl _, Nat.lt_succ_self _⟩
      have hbel3 : Below w.heap.size w (w2.setCell ⟨g, k, none⟩ (.slice qa na da)) := hn3.low hbel2 (by omega) (by have := hbel2.size; omega)
      have hs2 := b2.size
      obtain ⟨X, hX⟩ : ∃ X, X = (w2.setCell ⟨g, k, none⟩ (.slice qa na da)) := ⟨_, rfl⟩
      rw [← hX] at hO3 hbel3 hn3
      replace hX : Hid ((w2.setCell ⟨g, k, none⟩ (.slice qa na da)) = X) := hX.symm
      have hs3 := hn3.size
      have hP3 : ∀ x ∈ done, ∀ f ∈ x, f.P X (g + 1) X.heap.size := fun x hx f hf => (((hP x hx f hf).past (Wn.of_below (lo := 0) (hi := 0) b2) (Or.inr (Nat.zero_le _))).past hn3 (Or.inr (Nat.le_refl _))).wide (Nat.le_refl _) (by omega)
      replace Pa := (Pa.past hn3 (Or.inr (by omega))).wide (lo' := g + 1) (hi' := X.heap.size) (by omega) (by omega)
      have hP4 : ∀ x ∈ done ++ [([Fd.r ⟨qa, na, da, xsa⟩] : Rc)], ∀ f ∈ x, f.P X (g + 1) X.heap.size := fun x hx f hf => by
        rcases List.mem_append.1 hx with hx | hx
        · exact hP3 x hx f hf
        · rw [List.mem_singleton] at hx
          subst hx
          simp only [List.mem_cons, List.not_mem_nil, or_false] at hf
          subst hf
          exact Pa
      have hsh4 : ∀ x ∈ done ++ [([Fd.r ⟨qa, na, da, xsa⟩] : Rc)], RowSh x := fun x hx => by
        rcases List.mem_append.1 hx with hx | hx
        · exact hsh x hx
        · rw [List.mem_singleton] at hx
          subst hx
          exact ⟨_, rfl⟩
      have hnew : Hid ((done ++ [([Fd.r ⟨qa, na, da, xsa⟩] : Rc)]).map Rc.con = (xs.take (k + 1)).map Rc.con) := by
        rw [Hid, List.map_append, ← hdc.out]; rfl
      rw [← hg.out] at hbel3
      clear hgo hset hO2 hO hbel hbel2 b2 hdc hP hP3 hsh hn3 hrl hfl hA
      go_wp2_with (rw [hX.out])
      go_roundw
      case rel => exact ⟨k + 1, by omega, by go_num, ⟨_, by simp [hdl], hnew, hP4, hsh4, hO3⟩, hbel3⟩
      case measure => simp [intOf]; omega
    · have hkn : k = n := by omega
      subst hkn
      rw [Nat.sub_self, List.replicate_zero, List.append_nil] at hO
      have hall : Hid (done.map Rc.con = xs.map Rc.con) := by rw [Hid, hdc.out, ← hlen, List.take_length]
      have hgw := (hO.lt g rfl).2
      have hcl : ∀ x ∈ done, x.length = 1 := fun x hx => row_len x (hsh x hx)
      have hfl : (flatF done).length = k * 1 := by rw [flatF_length done 1 hcl, hdl]
      have hR : RecP wr g wr.heap.size 1 RowSh (some ⟨g, 0, none⟩) k done := by
        refine ⟨hn, hdl, fun _ => ⟨g, rfl, Nat.le_refl _, hgw, fun i hi => ⟨?_, hO.frozenAt i⟩, fun i j v hi hv => ?_, fun x hx r hr h0 => ?_⟩, fun x hx f hf => (hP x hx f hf).wide (by omega) (Nat.le_refl _), hsh⟩
        · rw [hO.cellAt i (by omega)]
          exact ⟨_, List.getElem?_eq_getElem (by omega)⟩
        · have hj : j < 1 := by
            have h1 := (List.getElem?_eq_some_iff.1 hv).1
            rw [Rc.vals, List.length_map, hcl _ (getD_memF (by omega))] at h1
            exact h1
          rw [hO.cellAt (i * 1 + j) (by omega), flatF_at done 1 hcl i j hj (by omega)]
          exact hv
        · obtain ⟨b, e, h1, _⟩ := RwA.P.lt (show RwA.P wr (g + 1) wr.heap.size r from hP x hx _ hr) h0
          exact ⟨b, e, by omega⟩
      clear hO hdc hP h fit
      rw [← hg.out] at hbel
      go_wp2_with (fail)
      go_ret
      rw [← hg.out]
      exact ⟨_, _, done, rfl, hR, hall, hbel⟩

end Go.Proofs.YthfnechcddmjkaaGreatDoor

namespace Go.Proofs.YthfnechcddmjkaaGreatDoor
open Go.RowKit
set_option maxRecDepth 100000

theorem eqBytes_true (p p' : Option Addr) (n n' c c' : Nat) (xs : List Int) (w X : World) (h : RwA.Ok w ⟨p, n, c, xs⟩) (h' : RwA.Ok w ⟨p', n', c', xs⟩) (k : Below w.heap.size w X) : Calls Tryz.prog 9 #[.slice p n c, .slice p' n' c'] X fun e w' => e = .returned (.bool true) ∧ Below X.heap.size X w' :=
  (eqByteS_any p p' n n' c c' xs xs X h.hn h.len h'.len (in_below h.bytes k) (in_below h'.bytes k)).mono fun e w' ⟨a, b⟩ => ⟨by rw [a, decide_eq_true rfl], b⟩
theorem eqItem_true (s : ByteArray) (t d : Int) (p p' : Option Addr) (n n' c c' : Nat) (xs : List Int) (w X : World) (h : RwA.Ok w ⟨p, n, c, xs⟩) (h' : RwA.Ok w ⟨p', n', c', xs⟩) (k : Below w.heap.size w X) : Calls Tryz.prog 111 #[.agg #[.string s, .int .i64 t, .int .i64 d, .slice p n c], .agg #[.string s, .int .i64 t, .int .i64 d, .slice p' n' c']] X fun e w' => e = .returned (.bool true) ∧ Below X.heap.size X w' :=
  (eqItem_any s s t t d d p p' n c n' c' xs xs X h.hn h.len h'.len (in_below h.bytes k) (in_below h'.bytes k)).mono fun e w' ⟨a, b⟩ => ⟨by rw [a]; simp, b⟩

set_option maxHeartbeats 4000000 in
theorem eqWire_true (tp : Bool) (s : ByteArray) (t d : Int) (pa pa' : Option Addr) (na na' ca ca' : Nat) (xsa : List Int)(pb pb' : Option Addr) (nb nb' cb cb' : Nat) (xsb : List Int) (w : World) (oka : RwA.Ok w ⟨pa, na, ca, xsa⟩) (oka' : RwA.Ok w ⟨pa', na', ca', xsa⟩) (okb : RwA.Ok w ⟨pb, nb, cb, xsb⟩) (okb' : RwA.Ok w ⟨pb', nb', cb', xsb⟩) : Calls Tryz.prog 68 #[.agg #[.bool tp, .string s, .int .i64 t, .int .i64 d, .slice pa na ca, .slice pb nb cb], .agg #[.bool tp, .string s, .int .i64 t, .int .i64 d, .slice pa' na' ca', .slice pb' nb' cb']] w fun z w' => z = .returned (.bool true) ∧ Below w.heap.size w w' := by
  have kA : ∀ o1 o2, Below w.heap.size w ((w.alloc o1).alloc o2) := fun o1 o2 => made_below _ _ (made_below _ _ (Below.refl _ _))
  have sz : ∀ (W : World) o, (W.alloc o).heap.size = W.heap.size + 1 := fun W o => by simp
  have n_tp : (tp != tp) = false := by simp
  go_enter Tryz.func68, Tryz.ntmps68
  go_wp2_with (fail)
  refine (eqItem_true s t d pa pa' na na' ca ca' xsa w _ oka oka' (kA _ _)).mono ?_
  rintro z w1 ⟨rfl, b1⟩
  have D1 := (Cells.made w _ _).on (made_below _ _ b1)
  have D2 := (Cells.made (w.alloc _) _ _).on b1
  have k1 := made_below _ _ (made_below _ _ b1)
  rw [sz] at D2
  clear kA sz b1
  have l5 : w1.cell? ⟨w.heap.size, 5, none⟩ = some (.slice pb nb cb) := (D1.2 5).1
  have r5 : w1.cell? ⟨w.heap.size + 1, 5, none⟩ = some (.slice pb' nb' cb') := (D2.2 5).1
  go_wp2_with (fail)
  clear l5 r5
  refine (eqBytes_true pb pb' nb nb' cb cb' xsb w _ okb okb' k1).mono ?_
  rintro z w2 ⟨rfl, b2⟩
  replace D1 := D1.on b2
  replace D2 := D2.on b2
  have k2 := below_on k1 b2
  clear k1 b2
  go_wp2_with (fail)
  go_ret
  exact ⟨rfl, k2⟩

set_option maxHeartbeats 4000000 in
theorem eqSent_true (s : ByteArray) (t : Int) (pa pa' : Option Addr) (na na' ca ca' : Nat) (xsa : List Int)(pb pb' : Option Addr) (nb nb' cb cb' : Nat) (xsb : List Int) (w : World) (oka : RwA.Ok w ⟨pa, na, ca, xsa⟩) (oka' : RwA.Ok w ⟨pa', na', ca', xsa⟩) (okb : RwA.Ok w ⟨pb, nb, cb, xsb⟩) (okb' : RwA.Ok w ⟨pb', nb', cb', xsb⟩) : Calls Tryz.prog 69 #[.agg #[.string s, .int .i64 t, .slice pa na ca, .slice pb nb cb], .agg #[.string s, .int .i64 t, .slice pa' na' ca', .slice pb' nb' cb']] w fun z w' => z = .returned (.bool true) ∧ Below w.heap.size w w' := by
  have kA : ∀ o1 o2, Below w.heap.size w ((w.alloc o1).alloc o2) := fun o1 o2 => made_below _ _ (made_below _ _ (Below.refl _ _))
  have sz : ∀ (W : World) o, (W.alloc o).heap.size = W.heap.size + 1 := fun W o => by simp
  have n_t : (t != t) = false := by simp
  go_enter Tryz.func69, Tryz.ntmps69
  go_wp2_with (fail)
  refine (eqBytes_true pa pa' na na' ca ca' xsa w _ oka oka' (kA _ _)).mono ?_
  rintro z w1 ⟨rfl, b1⟩
  have D1 := (Cells.made w _ _).on (made_below _ _ b1)
  have D2 := (Cells.made (w.alloc _) _ _).on b1
  have k1 := made_below _ _ (made_below _ _ b1)
  rw [sz] at D2
  clear kA sz b1
  have l3 : w1.cell? ⟨w.heap.size, 3, none⟩ = some (.slice pb nb cb) := (D1.2 3).1
  have r3 : w1.cell? ⟨w.heap.size + 1, 3, none⟩ = some (.slice pb' nb' cb') := (D2.2 3).1
  go_wp2_with (fail)
  clear l3 r3
  refine (eqBytes_true pb pb' nb nb' cb cb' xsb w _ okb okb' k1).mono ?_
  rintro z w2 ⟨rfl, b2⟩
  replace D1 := D1.on b2
  replace D2 := D2.on b2
  have k2 := below_on k1 b2
  clear k1 b2
  go_wp2_with (fail)
  go_ret
  exact ⟨rfl, k2⟩

set_option maxHeartbeats 8000000 in
theorem eqWireSF_true (p p' : Option Addr) (n n' c c' : Nat) (xs ys : List Rc) (w : World) (h : RecA w 6 WireSh p n xs) (h' : RecA w 6 WireSh p' n' ys) (hxy : Hid (xs.map Rc.con = ys.map Rc.con)) :
    Calls Tryz.prog 26 #[.slice p n c, .slice p' n' c'] w fun e w' => e = .returned (.bool true) ∧ Below w.heap.size w w' := by
  have hnn : n' = n := by rw [← h.len, ← h'.len, ← List.length_map (f := Rc.con), ← hxy.out, List.length_map]
  subst hnn
  have hn := h.hn
  have hlen := h.len
  have hlen' := h'.len
  have hd : ((n' : Int) != (n' : Int)) = false := by simp
  go_enter Tryz.func26, Tryz.ntmps26
  go_wp2_with (fail)
  go_loopw [5] (fun i wr => ∃ k : Nat, k ≤ n' ∧ i = .int .i64 k ∧ Below w.heap.size w wr) (fun i _ => n' - (intOf i).toNat)
  case atStart => exact ⟨0, Nat.zero_le _, rfl, Below.refl _ _⟩
  case round =>
    obtain ⟨k, hk, rfl, hbel⟩ := hrel
    by_cases hlt : k < n'
    · obtain ⟨b, o, x, rfl, hx, hxm, hc, hA, hS⟩ := (h.on hbel).at hlt
      obtain ⟨b', o', y, rfl, hy, hym, hc', hA', hS'⟩ := (h'.on hbel).at hlt
      have hcon : Rc.con x = Rc.con y := by
        have e := congrArg (fun l => l[k]?) hxy.out
        simp only [List.getElem?_map, List.getElem?_eq_getElem (show k < xs.length by omega), List.getElem?_eq_getElem (show k < ys.length by omega), Option.map_some, Option.some.injEq] at e
        rw [List.getD_eq_getElem?_getD, List.getElem?_eq_getElem (show k < xs.length by omega), Option.getD_some] at hx
        rw [List.getD_eq_getElem?_getD, List.getElem?_eq_getElem (show k < ys.length by omega), Option.getD_some] at hy
        rw [← hx, ← hy]
        exact e
      obtain ⟨tp, s, t, d, ⟨pa, na, ca, xsa⟩, ⟨pb, nb, cb, xsb⟩, rfl⟩ := hS
      obtain ⟨tp', s', t', d', ⟨pa', na', ca', xsa'⟩, ⟨pb', nb', cb', xsb'⟩, rfl⟩ := hS'
      simp only [Rc.con, List.map_cons, List.map_nil, Fd.con, List.cons.injEq, and_true, Cn.b.injEq, Cn.s.injEq, Cn.i.injEq, Cn.r.injEq] at hcon
      obtain ⟨rfl, rfl, rfl, rfl, rfl, rfl⟩ := hcon
      have l0 : wr.cell? ⟨b, o + k * 6, none⟩ = some (.bool tp) := hc 0 _ rfl
      have l1 : wr.cell? ⟨b, o + k * 6 + 1, none⟩ = some (.string s) := hc 1 _ rfl
      have l2 : wr.cell? ⟨b, o + k * 6 + 2, none⟩ = some (.int .i64 t) := hc 2 _ rfl
      have l3 : wr.cell? ⟨b, o + k * 6 + 3, none⟩ = some (.int .i64 d) := hc 3 _ rfl
      have l4 : wr.cell? ⟨b, o + k * 6 + 4, none⟩ = some (.slice pa na ca) := hc 4 _ rfl
      have l5 : wr.cell? ⟨b, o + k * 6 + 5, none⟩ = some (.slice pb nb cb) := hc 5 _ rfl
      have m0 : wr.cell? ⟨b', o' + k * 6, none⟩ = some (.bool tp) := hc' 0 _ rfl
      have m1 : wr.cell? ⟨b', o' + k * 6 + 1, none⟩ = some (.string s) := hc' 1 _ rfl
      have m2 : wr.cell? ⟨b', o' + k * 6 + 2, none⟩ = some (.int .i64 t) := hc' 2 _ rfl
      have m3 : wr.cell? ⟨b', o' + k * 6 + 3, none⟩ = some (.int .i64 d) := hc' 3 _ rfl
      have m4 : wr.cell? ⟨b', o' + k * 6 + 4, none⟩ = some (.slice pa' na' ca') := hc' 4 _ rfl
      have m5 : wr.cell? ⟨b', o' + k * 6 + 5, none⟩ = some (.slice pb' nb' cb') := hc' 5 _ rfl
      have oka : RwA.Ok wr ⟨pa, na, ca, xsa⟩ := (show Fd.A wr (Fd.r ⟨pa, na, ca, xsa⟩) from hA _ (by simp))
      have oka' : RwA.Ok wr ⟨pa', na', ca', xsa⟩ := (show Fd.A wr (Fd.r ⟨pa', na', ca', xsa⟩) from hA' _ (by simp))
      have okb : RwA.Ok wr ⟨pb, nb, cb, xsb⟩ := (show Fd.A wr (Fd.r ⟨pb, nb, cb, xsb⟩) from hA _ (by simp))
      have okb' : RwA.Ok wr ⟨pb', nb', cb', xsb⟩ := (show Fd.A wr (Fd.r ⟨pb', nb', cb', xsb⟩) from hA' _ (by simp))
      have C := fun X (k : Below wr.heap.size wr X) => eqWire_true tp s t d pa pa' na na' ca ca' xsa pb pb' nb nb' cb cb' xsb X (oka.on k) (oka'.on k) (okb.on k) (okb'.on k)
      have HK : ∀ w', Below wr.heap.size wr w' → w'.cell? ⟨b, o + k * 6, none⟩ = some (.bool tp) ∧ w'.cell? ⟨b, o + k * 6 + 1, none⟩ = some (.string s) ∧ w'.cell? ⟨b, o + k * 6 + 2, none⟩ = some (.int .i64 t) ∧ w'.cell? ⟨b, o + k * 6 + 3, none⟩ = some (.int .i64 d) ∧ w'.cell? ⟨b, o + k * 6 + 4, none⟩ = some (.slice pa na ca) ∧ w'.cell? ⟨b, o + k * 6 + 5, none⟩ = some (.slice pb nb cb) ∧ w'.cell? ⟨b', o' + k * 6, none⟩ = some (.bool tp) ∧ w'.cell? ⟨b', o' + k * 6 + 1, none⟩ = some (.string s) ∧ w'.cell? ⟨b', o' + k * 6 + 2, none⟩ = some (.int .i64 t) ∧ w'.cell? ⟨b', o' + k * 6 + 3, none⟩ = some (.int .i64 d) ∧ w'.cell? ⟨b', o' + k * 6 + 4, none⟩ = some (.slice pa' na' ca') ∧ w'.cell? ⟨b', o' + k * 6 + 5, none⟩ = some (.slice pb' nb' cb') := fun w' hX => ⟨(hX.cell (World.block_lt_of_cell? wr _ l0)).trans l0, (hX.cell (World.block_lt_of_cell? wr _ l1)).trans l1, (hX.cell (World.block_lt_of_cell? wr _ l2)).trans l2, (hX.cell (World.block_lt_of_cell? wr _ l3)).trans l3, (hX.cell (World.block_lt_of_cell? wr _ l4)).trans l4, (hX.cell (World.block_lt_of_cell? wr _ l5)).trans l5, (hX.cell (World.block_lt_of_cell? wr _ m0)).trans m0, (hX.cell (World.block_lt_of_cell? wr _ m1)).trans m1, (hX.cell (World.block_lt_of_cell? wr _ m2)).trans m2, (hX.cell (World.block_lt_of_cell? wr _ m3)).trans m3, (hX.cell (World.block_lt_of_cell? wr _ m4)).trans m4, (hX.cell (World.block_lt_of_cell? wr _ m5)).trans m5⟩
      have bdr : Below wr.heap.size wr wr.drew := (Below.refl _ _).drew
      clear hc hc' h h' hx hy hxm hym hA hA' hxy
      go_wp2_with (fail)
      go_region_held3 (fun w' => w'.cell? ⟨b, o + k * 6, none⟩ = some (.bool tp) ∧ w'.cell? ⟨b, o + k * 6 + 1, none⟩ = some (.string s) ∧ w'.cell? ⟨b, o + k * 6 + 2, none⟩ = some (.int .i64 t) ∧ w'.cell? ⟨b, o + k * 6 + 3, none⟩ = some (.int .i64 d) ∧ w'.cell? ⟨b, o + k * 6 + 4, none⟩ = some (.slice pa na ca) ∧ w'.cell? ⟨b, o + k * 6 + 5, none⟩ = some (.slice pb nb cb) ∧ w'.cell? ⟨b', o' + k * 6, none⟩ = some (.bool tp) ∧ w'.cell? ⟨b', o' + k * 6 + 1, none⟩ = some (.string s) ∧ w'.cell? ⟨b', o' + k * 6 + 2, none⟩ = some (.int .i64 t) ∧ w'.cell? ⟨b', o' + k * 6 + 3, none⟩ = some (.int .i64 d) ∧ w'.cell? ⟨b', o' + k * 6 + 4, none⟩ = some (.slice pa' na' ca') ∧ w'.cell? ⟨b', o' + k * 6 + 5, none⟩ = some (.slice pb' nb' cb')) (exact HK _ (by repeat (with_reducible (first | exact Below.refl _ _ | refine below_drewL ?_ | refine below_on ?_ b2)))) (first | (go_at_call 68; refine (C _ bdr).mono ?_; rintro z w2 ⟨rfl, b2⟩))
      have hbel2 := below_on (below_on hbel bdr) b2
      clear b2 hbel bdr HK C
      go_wp2_with (fail)
      go_roundw
      case rel => exact ⟨k + 1, by omega, by go_num, hbel2⟩
      case measure => simp [intOf]; omega
    · have hkn : k = n' := by omega
      subst hkn
      go_wp2_with (fail)
      go_ret
      exact ⟨rfl, hbel⟩

set_option maxHeartbeats 8000000 in
theorem eqSentSF_true (p p' : Option Addr) (n n' c c' : Nat) (xs ys : List Rc) (w : World) (h : RecA w 4 SentSh p n xs) (h' : RecA w 4 SentSh p' n' ys) (hxy : Hid (xs.map Rc.con = ys.map Rc.con)) :
    Calls Tryz.prog 27 #[.slice p n c, .slice p' n' c'] w fun e w' => e = .returned (.bool true) ∧ Below w.heap.size w w' := by
  have hnn : n' = n := by rw [← h.len, ← h'.len, ← List.length_map (f := Rc.con), ← hxy.out, List.length_map]
  subst hnn
  have hn := h.hn
  have hlen := h.len
  have hlen' := h'.len
  have hd : ((n' : Int) != (n' : Int)) = false := by simp
  go_enter Tryz.func27, Tryz.ntmps27
  go_wp2_with (fail)
  go_loopw [5] (fun i wr => ∃ k : Nat, k ≤ n' ∧ i = .int .i64 k ∧ Below w.heap.size w wr) (fun i _ => n' - (intOf i).toNat)
  case atStart => exact ⟨0, Nat.zero_le _, rfl, Below.refl _ _⟩
  case round =>
    obtain ⟨k, hk, rfl, hbel⟩ := hrel
    by_cases hlt : k < n'
    · obtain ⟨b, o, x, rfl, hx, hxm, hc, hA, hS⟩ := (h.on hbel).at hlt
      obtain ⟨b', o', y, rfl, hy, hym, hc', hA', hS'⟩ := (h'.on hbel).at hlt
      have hcon : Rc.con x = Rc.con y := by
        have e := congrArg (fun l => l[k]?) hxy.out
        simp only [List.getElem?_map, List.getElem?_eq_getElem (show k < xs.length by omega), List.getElem?_eq_getElem (show k < ys.length by omega), Option.map_some, Option.some.injEq] at e
        rw [List.getD_eq_getElem?_getD, List.getElem?_eq_getElem (show k < xs.length by omega), Option.getD_some] at hx
        rw [List.getD_eq_getElem?_getD, List.getElem?_eq_getElem (show k < ys.length by omega), Option.getD_some] at hy
        rw [← hx, ← hy]
        exact e
      obtain ⟨s, t, ⟨pa, na, ca, xsa⟩, ⟨pb, nb, cb, xsb⟩, rfl⟩ := hS
      obtain ⟨s', t', ⟨pa', na', ca', xsa'⟩, ⟨pb', nb', cb', xsb'⟩, rfl⟩ := hS'
      simp only [Rc.con, List.map_cons, List.map_nil, Fd.con, List.cons.injEq, and_true, Cn.s.injEq, Cn.i.injEq, Cn.r.injEq] at hcon
      obtain ⟨rfl, rfl, rfl, rfl⟩ := hcon
      have l0 : wr.cell? ⟨b, o + k * 4, none⟩ = some (.string s) := hc 0 _ rfl
      have l1 : wr.cell? ⟨b, o + k * 4 + 1, none⟩ = some (.int .i64 t) := hc 1 _ rfl
      have l2 : wr.cell? ⟨b, o + k * 4 + 2, none⟩ = some (.slice pa na ca) := hc 2 _ rfl
      have l3 : wr.cell? ⟨b, o + k * 4 + 3, none⟩ = some (.slice pb nb cb) := hc 3 _ rfl
      have m0 : wr.cell? ⟨b', o' + k * 4, none⟩ = some (.string s) := hc' 0 _ rfl
      have m1 : wr.cell? ⟨b', o' + k * 4 + 1, none⟩ = some (.int .i64 t) := hc' 1 _ rfl
      have m2 : wr.cell? ⟨b', o' + k * 4 + 2, none⟩ = some (.slice pa' na' ca') := hc' 2 _ rfl
      have m3 : wr.cell? ⟨b', o' + k * 4 + 3, none⟩ = some (.slice pb' nb' cb') := hc' 3 _ rfl
      have oka : RwA.Ok wr ⟨pa, na, ca, xsa⟩ := (show Fd.A wr (Fd.r ⟨pa, na, ca, xsa⟩) from hA _ (by simp))
      have oka' : RwA.Ok wr ⟨pa', na', ca', xsa⟩ := (show Fd.A wr (Fd.r ⟨pa', na', ca', xsa⟩) from hA' _ (by simp))
      have okb : RwA.Ok wr ⟨pb, nb, cb, xsb⟩ := (show Fd.A wr (Fd.r ⟨pb, nb, cb, xsb⟩) from hA _ (by simp))
      have okb' : RwA.Ok wr ⟨pb', nb', cb', xsb⟩ := (show Fd.A wr (Fd.r ⟨pb', nb', cb', xsb⟩) from hA' _ (by simp))
      have C := fun X (k : Below wr.heap.size wr X) => eqSent_true s t pa pa' na na' ca ca' xsa pb pb' nb nb' cb cb' xsb X (oka.on k) (oka'.on k) (okb.on k) (okb'.on k)
      have HK : ∀ w', Below wr.heap.size wr w' → w'.cell? ⟨b, o + k * 4, none⟩ = some (.string s) ∧ w'.cell? ⟨b, o + k * 4 + 1, none⟩ = some (.int .i64 t) ∧ w'.cell? ⟨b, o + k * 4 + 2, none⟩ = some (.slice pa na ca) ∧ w'.cell? ⟨b, o + k * 4 + 3, none⟩ = some (.slice pb nb cb) ∧ w'.cell? ⟨b', o' + k * 4, none⟩ = some (.string s) ∧ w'.cell? ⟨b', o' + k * 4 + 1, none⟩ = some (.int .i64 t) ∧ w'.cell? ⟨b', o' + k * 4 + 2, none⟩ = some (.slice pa' na' ca') ∧ w'.cell? ⟨b', o' + k * 4 + 3, none⟩ = some (.slice pb' nb' cb') := fun w' hX => ⟨(hX.cell (World.block_lt_of_cell? wr _ l0)).trans l0, (hX.cell (World.block_lt_of_cell? wr _ l1)).trans l1, (hX.cell (World.block_lt_of_cell? wr _ l2)).trans l2, (hX.cell (World.block_lt_of_cell? wr _ l3)).trans l3, (hX.cell (World.block_lt_of_cell? wr _ m0)).trans m0, (hX.cell (World.block_lt_of_cell? wr _ m1)).trans m1, (hX.cell (World.block_lt_of_cell? wr _ m2)).trans m2, (hX.cell (World.block_lt_of_cell? wr _ m3)).trans m3⟩
      have bdr : Below wr.heap.size wr wr.drew := (Below.refl _ _).drew
      clear hc hc' h h' hx hy hxm hym hA hA' hxy
      go_wp2_with (fail)
      go_region_held3 (fun w' => w'.cell? ⟨b, o + k * 4, none⟩ = some (.string s) ∧ w'.cell? ⟨b, o + k * 4 + 1, none⟩ = some (.int .i64 t) ∧ w'.cell? ⟨b, o + k * 4 + 2, none⟩ = some (.slice pa na ca) ∧ w'.cell? ⟨b, o + k * 4 + 3, none⟩ = some (.slice pb nb cb) ∧ w'.cell? ⟨b', o' + k * 4, none⟩ = some (.string s) ∧ w'.cell? ⟨b', o' + k * 4 + 1, none⟩ = some (.int .i64 t) ∧ w'.cell? ⟨b', o' + k * 4 + 2, none⟩ = some (.slice pa' na' ca') ∧ w'.cell? ⟨b', o' + k * 4 + 3, none⟩ = some (.slice pb' nb' cb')) (exact HK _ (by repeat (with_reducible (first | exact Below.refl _ _ | refine below_drewL ?_ | refine below_on ?_ b2)))) (first | (go_at_call 69; refine (C _ bdr).mono ?_; rintro z w2 ⟨rfl, b2⟩))
      have hbel2 := below_on (below_on hbel bdr) b2
      clear b2 hbel bdr HK C
      go_wp2_with (fail)
      go_roundw
      case rel => exact ⟨k + 1, by omega, by go_num, hbel2⟩
      case measure => simp [intOf]; omega
    · have hkn : k = n' := by omega
      subst hkn
      go_wp2_with (fail)
      go_ret
      exact ⟨rfl, hbel⟩

set_option maxHeartbeats 8000000 in
theorem eqItemSF_true (p p' : Option Addr) (n n' c c' : Nat) (xs ys : List Rc) (w : World) (h : RecA w 4 ItemSh p n xs) (h' : RecA w 4 ItemSh p' n' ys) (hxy : Hid (xs.map Rc.con = ys.map Rc.con)) :
    Calls Tryz.prog 66 #[.slice p n c, .slice p' n' c'] w fun e w' => e = .returned (.bool true) ∧ Below w.heap.size w w' := by
  have hnn : n' = n := by rw [← h.len, ← h'.len, ← List.length_map (f := Rc.con), ← hxy.out, List.length_map]
  subst hnn
  have hn := h.hn
  have hlen := h.len
  have hlen' := h'.len
  have hd : ((n' : Int) != (n' : Int)) = false := by simp
  go_enter Tryz.func66, Tryz.ntmps66
  go_wp2_with (fail)
  go_loopw [5] (fun i wr => ∃ k : Nat, k ≤ n' ∧ i = .int .i64 k ∧ Below w.heap.size w wr) (fun i _ => n' - (intOf i).toNat)
  case atStart => exact ⟨0, Nat.zero_le _, rfl, Below.refl _ _⟩
  case round =>
    obtain ⟨k, hk, rfl, hbel⟩ := hrel
    by_cases hlt : k < n'
    · obtain ⟨b, o, x, rfl, hx, hxm, hc, hA, hS⟩ := (h.on hbel).at hlt
      obtain ⟨b', o', y, rfl, hy, hym, hc', hA', hS'⟩ := (h'.on hbel).at hlt
      have hcon : Rc.con x = Rc.con y := by
        have e := congrArg (fun l => l[k]?) hxy.out
        simp only [List.getElem?_map, List.getElem?_eq_getElem (show k < xs.length by omega), List.getElem?_eq_getElem (show k < ys.length by omega), Option.map_some, Option.some.injEq] at e
        rw [List.getD_eq_getElem?_getD, List.getElem?_eq_getElem (show k < xs.length by omega), Option.getD_some] at hx
        rw [List.getD_eq_getElem?_getD, List.getElem?_eq_getElem (show k < ys.length by omega), Option.getD_some] at hy
        rw [← hx, ← hy]
        exact e
      obtain ⟨s, t, d, ⟨pa, na, ca, xsa⟩, rfl⟩ := hS
      obtain ⟨s', t', d', ⟨pa', na', ca', xsa'⟩, rfl⟩ := hS'
      simp only [Rc.con, List.map_cons, List.map_nil, Fd.con, List.cons.injEq, and_true, Cn.s.injEq, Cn.i.injEq, Cn.r.injEq] at hcon
      obtain ⟨rfl, rfl, rfl, rfl⟩ := hcon
      have l0 : wr.cell? ⟨b, o + k * 4, none⟩ = some (.string s) := hc 0 _ rfl
      have l1 : wr.cell? ⟨b, o + k * 4 + 1, none⟩ = some (.int .i64 t) := hc 1 _ rfl
      have l2 : wr.cell? ⟨b, o + k * 4 + 2, none⟩ = some (.int .i64 d) := hc 2 _ rfl
      have l3 : wr.cell? ⟨b, o + k * 4 + 3, none⟩ = some (.slice pa na ca) := hc 3 _ rfl
      have m0 : wr.cell? ⟨b', o' + k * 4, none⟩ = some (.string s) := hc' 0 _ rfl
      have m1 : wr.cell? ⟨b', o' + k * 4 + 1, none⟩ = some (.int .i64 t) := hc' 1 _ rfl
      have m2 : wr.cell? ⟨b', o' + k * 4 + 2, none⟩ = some (.int .i64 d) := hc' 2 _ rfl
      have m3 : wr.cell? ⟨b', o' + k * 4 + 3, none⟩ = some (.slice pa' na' ca') := hc' 3 _ rfl
      have oka : RwA.Ok wr ⟨pa, na, ca, xsa⟩ := (show Fd.A wr (Fd.r ⟨pa, na, ca, xsa⟩) from hA _ (by simp))
      have oka' : RwA.Ok wr ⟨pa', na', ca', xsa⟩ := (show Fd.A wr (Fd.r ⟨pa', na', ca', xsa⟩) from hA' _ (by simp))
      have C := fun X (k : Below wr.heap.size wr X) => eqItem_true s t d pa pa' na na' ca ca' xsa wr X oka oka' k
      have HK : ∀ w', Below wr.heap.size wr w' → w'.cell? ⟨b, o + k * 4, none⟩ = some (.string s) ∧ w'.cell? ⟨b, o + k * 4 + 1, none⟩ = some (.int .i64 t) ∧ w'.cell? ⟨b, o + k * 4 + 2, none⟩ = some (.int .i64 d) ∧ w'.cell? ⟨b, o + k * 4 + 3, none⟩ = some (.slice pa na ca) ∧ w'.cell? ⟨b', o' + k * 4, none⟩ = some (.string s) ∧ w'.cell? ⟨b', o' + k * 4 + 1, none⟩ = some (.int .i64 t) ∧ w'.cell? ⟨b', o' + k * 4 + 2, none⟩ = some (.int .i64 d) ∧ w'.cell? ⟨b', o' + k * 4 + 3, none⟩ = some (.slice pa' na' ca') := fun w' hX => ⟨(hX.cell (World.block_lt_of_cell? wr _ l0)).trans l0, (hX.cell (World.block_lt_of_cell? wr _ l1)).trans l1, (hX.cell (World.block_lt_of_cell? wr _ l2)).trans l2, (hX.cell (World.block_lt_of_cell? wr _ l3)).trans l3, (hX.cell (World.block_lt_of_cell? wr _ m0)).trans m0, (hX.cell (World.block_lt_of_cell? wr _ m1)).trans m1, (hX.cell (World.block_lt_of_cell? wr _ m2)).trans m2, (hX.cell (World.block_lt_of_cell? wr _ m3)).trans m3⟩
      have bdr : Below wr.heap.size wr wr.drew := (Below.refl _ _).drew
      clear hc hc' h h' hx hy hxm hym hA hA' hxy
      go_wp2_with (fail)
      go_region_held3 (fun w' => w'.cell? ⟨b, o + k * 4, none⟩ = some (.string s) ∧ w'.cell? ⟨b, o + k * 4 + 1, none⟩ = some (.int .i64 t) ∧ w'.cell? ⟨b, o + k * 4 + 2, none⟩ = some (.int .i64 d) ∧ w'.cell? ⟨b, o + k * 4 + 3, none⟩ = some (.slice pa na ca) ∧ w'.cell? ⟨b', o' + k * 4, none⟩ = some (.string s) ∧ w'.cell? ⟨b', o' + k * 4 + 1, none⟩ = some (.int .i64 t) ∧ w'.cell? ⟨b', o' + k * 4 + 2, none⟩ = some (.int .i64 d) ∧ w'.cell? ⟨b', o' + k * 4 + 3, none⟩ = some (.slice pa' na' ca')) (exact HK _ (by repeat (with_reducible (first | exact Below.refl _ _ | refine below_drewL ?_ | refine below_on ?_ b2)))) (first | (go_at_call 111; refine (C _ bdr).mono ?_; rintro z w2 ⟨rfl, b2⟩))
      have hbel2 := below_on (below_on hbel bdr) b2
      clear b2 hbel bdr HK C
      go_wp2_with (fail)
      go_roundw
      case rel => exact ⟨k + 1, by omega, by go_num, hbel2⟩
      case measure => simp [intOf]; omega
    · have hkn : k = n' := by omega
      subst hkn
      go_wp2_with (fail)
      go_ret
      exact ⟨rfl, hbel⟩

set_option maxHeartbeats 8000000 in
theorem eqByteSSF_true (p p' : Option Addr) (n n' c c' : Nat) (xs ys : List Rc) (w : World) (h : RecA w 1 RowSh p n xs) (h' : RecA w 1 RowSh p' n' ys) (hxy : Hid (xs.map Rc.con = ys.map Rc.con)) :
    Calls Tryz.prog 67 #[.slice p n c, .slice p' n' c'] w fun e w' => e = .returned (.bool true) ∧ Below w.heap.size w w' := by
  have hnn : n' = n := by rw [← h.len, ← h'.len, ← List.length_map (f := Rc.con), ← hxy.out, List.length_map]
  subst hnn
  have hn := h.hn
  have hlen := h.len
  have hlen' := h'.len
  have hd : ((n' : Int) != (n' : Int)) = false := by simp
  go_enter Tryz.func67, Tryz.ntmps67
  go_wp2_with (fail)
  go_loopw [5] (fun i wr => ∃ k : Nat, k ≤ n' ∧ i = .int .i64 k ∧ Below w.heap.size w wr) (fun i _ => n' - (intOf i).toNat)
  case atStart => exact ⟨0, Nat.zero_le _, rfl, Below.refl _ _⟩
  case round =>
    obtain ⟨k, hk, rfl, hbel⟩ := hrel
    by_cases hlt : k < n'
    · obtain ⟨b, o, x, rfl, hx, hxm, hc, hA, hS⟩ := (h.on hbel).at hlt
      obtain ⟨b', o', y, rfl, hy, hym, hc', hA', hS'⟩ := (h'.on hbel).at hlt
      have hcon : Rc.con x = Rc.con y := by
        have e := congrArg (fun l => l[k]?) hxy.out
        simp only [List.getElem?_map, List.getElem?_eq_getElem (show k < xs.length by omega), List.getElem?_eq_getElem (show k < ys.length by omega), Option.map_some, Option.some.injEq] at e
        rw [List.getD_eq_getElem?_getD, List.getElem?_eq_getElem (show k < xs.length by omega), Option.getD_some] at hx
        rw [List.getD_eq_getElem?_getD, List.getElem?_eq_getElem (show k < ys.length by omega), Option.getD_some] at hy
        rw [← hx, ← hy]
        exact e
      obtain ⟨⟨pa, na, ca, xsa⟩, rfl⟩ := hS
      obtain ⟨⟨pa', na', ca', xsa'⟩, rfl⟩ := hS'
      simp only [Rc.con, List.map_cons, List.map_nil, Fd.con, List.cons.injEq, and_true, Cn.r.injEq] at hcon
      obtain rfl := hcon
      have l0 : wr.cell? ⟨b, o + k, none⟩ = some (.slice pa na ca) := by have q := hc 0 _ rfl; rw [Nat.mul_one] at q; exact q
      have m0 : wr.cell? ⟨b', o' + k, none⟩ = some (.slice pa' na' ca') := by have q := hc' 0 _ rfl; rw [Nat.mul_one] at q; exact q
      have oka : RwA.Ok wr ⟨pa, na, ca, xsa⟩ := (show Fd.A wr (Fd.r ⟨pa, na, ca, xsa⟩) from hA _ (by simp))
      have oka' : RwA.Ok wr ⟨pa', na', ca', xsa⟩ := (show Fd.A wr (Fd.r ⟨pa', na', ca', xsa⟩) from hA' _ (by simp))
      have C := fun X (k : Below wr.heap.size wr X) => eqBytes_true pa pa' na na' ca ca' xsa wr X oka oka' k
      have HK : ∀ w', Below wr.heap.size wr w' → w'.cell? ⟨b, o + k, none⟩ = some (.slice pa na ca) ∧ w'.cell? ⟨b', o' + k, none⟩ = some (.slice pa' na' ca') := fun w' hX => ⟨(hX.cell (World.block_lt_of_cell? wr _ l0)).trans l0, (hX.cell (World.block_lt_of_cell? wr _ m0)).trans m0⟩
      have bdr : Below wr.heap.size wr wr.drew := (Below.refl _ _).drew
      clear hc hc' h h' hx hy hxm hym hA hA' hxy
      go_wp2_with (fail)
      go_region_held3 (fun w' => w'.cell? ⟨b, o + k, none⟩ = some (.slice pa na ca) ∧ w'.cell? ⟨b', o' + k, none⟩ = some (.slice pa' na' ca')) (exact HK _ (by repeat (with_reducible (first | exact Below.refl _ _ | refine below_drewL ?_ | refine below_on ?_ b2)))) (first | (go_at_call 9; refine (C _ bdr).mono ?_; rintro z w2 ⟨rfl, b2⟩))
      have hbel2 := below_on (below_on hbel bdr) b2
      clear b2 hbel bdr HK C
      go_wp2_with (fail)
      go_roundw
      case rel => exact ⟨k + 1, by omega, by go_num, hbel2⟩
      case measure => simp [intOf]; omega
    · have hkn : k = n' := by omega
      subst hkn
      go_wp2_with (fail)
      go_ret
      exact ⟨rfl, hbel⟩

end Go.Proofs.YthfnechcddmjkaaGreatDoor
