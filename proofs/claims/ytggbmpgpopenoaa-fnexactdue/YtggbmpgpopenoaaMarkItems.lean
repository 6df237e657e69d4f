/-
  The laws' marks in lists of items: laid, and found again. Conditions: rows of one's own, numbers that are not great.
-/
import Derived.Test.YtggbmpgpopenoaaMarkText
import Derived.Test.YtggbmpgpopenoaaSpecTake
namespace Go.Proofs.Ytggbmpgpopenoaa
open Go.RowKit
set_option maxRecDepth 100000

/-- Of the blocks that were there only some from lo to below hi have turned. -/
structure Within (lo hi : Nat) (w w' : World) : Prop where
  os : w'.os = w.os
  tape : w'.tape = w.tape
  output : w'.output = w.output
  size : w.heap.size ≤ w'.heap.size
  block : ∀ k, k < w.heap.size → (k < lo ∨ hi ≤ k) → w'.heap[k]? = w.heap[k]?
theorem Within.refl (lo hi : Nat) (w : World) : Within lo hi w w := ⟨rfl, rfl, rfl, Nat.le_refl _, fun _ _ _ => rfl⟩
theorem Within.below {lo hi : Nat} {w w1 w2 : World} (h : Within lo hi w w1) (b : Below w1.heap.size w1 w2) : Within lo hi w w2 :=
  ⟨b.os.trans h.os, b.tape.trans h.tape, b.output.trans h.output, Nat.le_trans h.size b.size, fun k hk hr => (b.block k (Nat.lt_of_lt_of_le hk h.size)).trans (h.block k hk hr)⟩
theorem Within.grown {lo hi : Nat} {w w1 w2 : World} {r : Option Nat} (h : Within lo hi w w1) (g : w1.grownBy w2 r) (hr : ∀ k, r = some k → lo ≤ k ∧ k < hi) : Within lo hi w w2 :=
  ⟨g.os.trans h.os, g.tape.trans h.tape, g.output.trans h.output, Nat.le_trans h.size g.size, fun k hk hh => (g.block k (Nat.lt_of_lt_of_le hk h.size) (fun e => by have := hr k e.symm; omega)).trans (h.block k hk hh)⟩
theorem Within.low {a lo hi : Nat} {w0 w w' : World} (h : Within lo hi w w') (b : Below a w0 w) (ha : a ≤ lo) (hw : a ≤ w.heap.size) : Below a w0 w' :=
  b.trans ⟨h.os, h.tape, h.output, h.size, fun k hk => h.block k (by omega) (.inl (by omega))⟩
theorem owns_same {w w' : World} {base e size n : Nat} {v : Value} {xs : List Value} (h : w.ownsRow base e size v n xs) (hb : ∀ k, v.ownBlock = some k → w'.heap[k]? = w.heap[k]?) : w'.ownsRow base e size v n xs := by
  refine ⟨h.1, ?_⟩
  rcases h.2 with hn | ⟨g, cap, cur, rfl, hbg, hgg, rest⟩
  · exact .inl hn
  · refine .inr ⟨g, cap, cur, rfl, hbg, ?_, rest⟩
    rw [hb g rfl]
    exact hgg
theorem Own.past13 {e lo hi a b n : Nat} {w w' : World} {v : Value} {xs : List Int} (h : Own e w a b v n xs) (hw : Within lo hi w w') (hd : b ≤ lo ∨ hi ≤ a) : Own e w' a b v n xs :=
  ⟨owns_same h.1 (fun k hk => hw.block k (h.1.lt k hk).2 (by have := h.2 k hk; have := (h.1.lt k hk).1; omega)), h.2⟩
theorem OwnItems.past13 {lo hi a b n : Nat} {w w' : World} {v : Value} {its : List ItA} (h : OwnItems w a b v n its) (hw : Within lo hi w w') (hd : b ≤ lo ∨ hi ≤ a) : OwnItems w' a b v n its :=
  ⟨h.len, owns_same h.row (fun k hk => hw.block k (h.row.lt k hk).2 (by have := h.top k hk; have := (h.row.lt k hk).1; omega)), h.top, fun x hx => (h.bytes x hx).past13 hw hd, h.apart, h.pair⟩

/-- The marks that are laid into items from k on. -/
def mkI : Nat → List ItA → List ItA
  | _, [] => []
  | k, x :: r => ⟨mtS k, ((k + 1 : Nat) : Int), ((k + 2 : Nat) : Int), x.p, x.n, x.c, marks ((k + 3 : Nat) : Int) x.n⟩ :: mkI (k + 3 + x.n) r
def mkK : Nat → List ItA → Nat
  | k, [] => k
  | k, x :: r => mkK (k + 3 + x.n) r
theorem mkK_append (k : Nat) (a b : List ItA) : mkK k (a ++ b) = mkK (mkK k a) b := by
  induction a generalizing k with
  | nil => rfl
  | cons x r ih => exact ih _
theorem mkI_append (k : Nat) (a b : List ItA) : mkI k (a ++ b) = mkI k a ++ mkI (mkK k a) b := by
  induction a generalizing k with
  | nil => rfl
  | cons x r ih => simp only [List.cons_append, mkI, mkK]; rw [ih]
theorem mkI_length (k : Nat) (a : List ItA) : (mkI k a).length = a.length := by
  induction a generalizing k with
  | nil => rfl
  | cons x r ih => simp [mkI, ih]
theorem mkK_le (k : Nat) (a : List ItA) : mkK k a = k + 3 * a.length + (a.map ItA.n).sum := by
  induction a generalizing k with
  | nil => simp [mkK]
  | cons x r ih => simp [mkK, ih]; omega
theorem mkK_take (k : Nat) (a : List ItA) (j : Nat) : mkK k (a.take j) ≤ mkK k a := by
  have e := congrArg (mkK k) (List.take_append_drop j a)
  rw [mkK_append, mkK_le (mkK k (a.take j))] at e
  omega

/-- Items that lie in the same slices, whatever the row tells beside. -/
theorem OwnItems.relabel {w w' : World} {lo hi n g : Nat} {v : Value} {its its' : List ItA} (h : OwnItems w lo hi v n its) (e : its'.map (fun x => (x.slice, x.n, x.xs)) = its.map (fun x => (x.slice, x.n, x.xs))) (hrow : w'.ownsRow lo 26 4 v n (flatI its')) (hg : w.grownBy w' (some g)) (hv : v.ownBlock = some g) : OwnItems w' lo hi v n its' := by
  have hl : its'.length = its.length := by have := congrArg List.length e; simpa using this
  have each : ∀ x ∈ its', ∃ y ∈ its, x.slice = y.slice ∧ x.n = y.n ∧ x.xs = y.xs := fun x hx => by
    have : (x.slice, x.n, x.xs) ∈ its.map (fun x => (x.slice, x.n, x.xs)) := by rw [← e]; exact List.mem_map.2 ⟨x, hx, rfl⟩
    obtain ⟨y, hy, h2⟩ := List.mem_map.1 this
    simp only [Prod.mk.injEq] at h2
    exact ⟨y, hy, h2.1.symm, h2.2.1.symm, h2.2.2.symm⟩
  have hmap : its'.map ItA.slice = its.map ItA.slice := by
    have := congrArg (List.map Prod.fst) e
    rw [List.map_map, List.map_map] at this
    exact this
  refine ⟨by rw [hl, h.len], hrow, h.top, fun x hx => ?_, fun x hx => ?_, ?_⟩
  · obtain ⟨y, hy, e1, e2, e3⟩ := each x hx
    rw [e1, e2, e3]
    refine ⟨(h.bytes y hy).1.kept hg ?_, (h.bytes y hy).2⟩
    rw [← hv]; exact h.apart y hy
  · obtain ⟨y, hy, e1, _, _⟩ := each x hx
    rw [e1]; exact h.apart y hy
  · have p1 : (its.map ItA.slice).Pairwise (fun a b => a.ownBlock = none ∨ a.ownBlock ≠ b.ownBlock) := List.pairwise_map.2 h.pair
    rw [← hmap] at p1
    exact List.pairwise_map.1 p1

/-- The bytes of one item told anew. -/
theorem OwnItems.rebyte {w w' : World} {lo hi n : Nat} {v : Value} {a b : List ItA} {x : ItA} {ys : List Int} (h : OwnItems w lo hi v n (a ++ x :: b)) (hx : Own 5 w' lo hi x.slice x.n ys) (hg : w.grownBy w' x.slice.ownBlock) : OwnItems w' lo hi v n (a ++ { x with xs := ys } :: b) := by
  have hf : flatI (a ++ { x with xs := ys } :: b) = flatI (a ++ x :: b) := by rw [flatI_append, flatI_append, flatI_cons, flatI_cons]; rfl
  have hap := h.apart x (by simp)
  have p := List.pairwise_append.1 h.pair
  have p2 := List.pairwise_cons.1 p.2.1
  have other : ∀ y, y ∈ a ∨ y ∈ b → y.slice.ownBlock = none ∨ y.slice.ownBlock ≠ x.slice.ownBlock := fun y hy => by
    rcases hy with hy | hy
    · exact p.2.2 y hy x (by simp)
    · rcases p2.1 y hy with e | e
      · rw [e]; cases y.slice.ownBlock <;> simp
      · exact .inr (Ne.symm e)
  have hv : v.ownBlock = none ∨ v.ownBlock ≠ x.slice.ownBlock := by
    rcases hap with e | e
    · rw [e]; cases v.ownBlock <;> simp
    · exact .inr (Ne.symm e)
  refine ⟨by have := h.len; simpa using this, by rw [hf]; exact h.row.kept hg hv, h.top, fun y hy => ?_, fun y hy => ?_, ?_⟩
  · rcases List.mem_append.1 hy with hy | hy
    · exact ⟨(h.bytes y (by simp [hy])).1.kept hg (other y (.inl hy)), (h.bytes y (by simp [hy])).2⟩
    · rcases List.mem_cons.1 hy with rfl | hy
      · exact hx
      · exact ⟨(h.bytes y (by simp [hy])).1.kept hg (other y (.inr hy)), (h.bytes y (by simp [hy])).2⟩
  · rcases List.mem_append.1 hy with hy | hy
    · exact h.apart y (by simp [hy])
    · rcases List.mem_cons.1 hy with rfl | hy
      · exact hap
      · exact h.apart y (by simp [hy])
  · rw [List.pairwise_append, List.pairwise_cons]
    exact ⟨p.1, ⟨p2.1, p2.2⟩, fun y hy z hz => by
      rcases List.mem_cons.1 hz with rfl | hz
      · exact p.2.2 y hy x (by simp)
      · exact p.2.2 y hy z (by simp [hz])⟩

theorem flatI_set3 (A B : List ItA) (x y : ItA) (h : x.slice = y.slice) :
    (((flatI (A ++ x :: B)).set (A.length * 4) (.string y.s)).set (A.length * 4 + 1) (.int .i64 y.t)).set (A.length * 4 + 2) (.int .i64 y.d) = flatI (A ++ y :: B) := by
  have e : ∀ (l m : List Value) (k : Nat) (v : Value), (l ++ m).set (l.length + k) v = l ++ m.set k v := fun l m k v => by rw [List.set_append_right _ _ (by omega)]; congr 2; omega
  have hl : (flatI A).length = A.length * 4 := flatI_length A
  have e0 : ∀ (m : List Value) (v : Value), (flatI A ++ m).set (A.length * 4) v = flatI A ++ m.set 0 v := fun m v => by rw [← hl]; exact e _ _ 0 _
  have e1 : ∀ (m : List Value) (v : Value), (flatI A ++ m).set (A.length * 4 + 1) v = flatI A ++ m.set 1 v := fun m v => by rw [← hl]; exact e _ _ 1 _
  have e2 : ∀ (m : List Value) (v : Value), (flatI A ++ m).set (A.length * 4 + 2) v = flatI A ++ m.set 2 v := fun m v => by rw [← hl]; exact e _ _ 2 _
  rw [flatI_append, flatI_append, flatI_cons, flatI_cons, e0, e1, e2]
  have hv : Value.slice x.p x.n x.c = Value.slice y.p y.n y.c := h
  simp [ItA.vals, hv]

set_option maxHeartbeats 4000000 in
theorem markItemS_own (lo hi : Nat) (p : Option Addr) (n c : Nat) (its : List ItA) (k : Nat) (w : World) (hn : n ≤ 1048577) (hk : 0 < k) (hk2 : mkK k its ≤ 100000000) (h : OwnItems w lo hi (.slice p n c) n its) :
    Calls Try.prog 36 #[.slice p n c, .int .i64 (k : Int)] w fun e w' => e = .returned (.int .i64 (mkK k its : Nat)) ∧ OwnItems w' lo hi (.slice p n c) n (mkI k its) ∧ Within lo hi w w' := by
  have hl := h.len
  go_enter Try.func36, Try.ntmps36
  go_wp2_with (fail)
  go_loopw [1, 5] (fun a i wr => ∃ j : Nat, j ≤ n ∧ i = .int .i64 j ∧ (∃ m : Nat, a = .int .i64 m ∧ 0 < m ∧ m ≤ 100000000 ∧ Hid (m = mkK k (its.take j))) ∧ OwnItems wr lo hi (.slice p n c) n (mkI k (its.take j) ++ its.drop j) ∧ Within lo hi w wr) (fun _ i _ => n - (intOf i).toNat)
  case atStart => exact ⟨0, Nat.zero_le _, rfl, ⟨k, rfl, hk, by rw [mkK_le] at hk2; omega, rfl⟩, by simpa [mkI] using h, Within.refl _ _ _⟩
  case round =>
    obtain ⟨j, hj, rfl, ⟨m, rfl, hm0, hm1, hm⟩, hO, hW⟩ := hrel
    by_cases hlt : j < n
    · obtain ⟨x, hx⟩ : ∃ x, its.getD j default = x := ⟨_, rfl⟩
      have hdrop : its.drop j = x :: its.drop (j + 1) := by
        rw [List.drop_eq_getElem_cons (show j < its.length by omega), ← hx, List.getD_eq_getElem?_getD, List.getElem?_eq_getElem (show j < its.length by omega)]; rfl
      have htake : its.take (j + 1) = its.take j ++ [x] := by rw [take_getD (by omega), hx]
      have hxn : x.n ≤ 100000000 := by
        have := mkK_take k its (j + 1)
        rw [htake, mkK_append, mkK_le _ [x]] at this
        simp at this
        omega
      have hend : mkK k (its.take (j + 1)) = m + 3 + x.n := by rw [htake, mkK_append, ← hm.out]; rfl
      have hmk : m + 3 + x.n ≤ 100000000 := by have := mkK_take k its (j + 1); omega
      rw [hdrop] at hO
      obtain ⟨A, hA⟩ : ∃ A, A = mkI k (its.take j) := ⟨_, rfl⟩
      obtain ⟨B, hB⟩ : ∃ B, B = its.drop (j + 1) := ⟨_, rfl⟩
      have hAl : A.length = j := by rw [hA, mkI_length, List.length_take]; omega
      rw [← hA, ← hB] at hO
      have hlist : Hid (mkI k (its.take (j + 1)) ++ its.drop (j + 1) = A ++ (⟨mtS m, ((m + 1 : Nat) : Int), ((m + 2 : Nat) : Int), x.p, x.n, x.c, marks ((m + 3 : Nat) : Int) x.n⟩ : ItA) :: B) := by
        rw [Hid, htake, mkI_append, ← hA, ← hB, ← hm.out]
        simp [mkI]
      obtain ⟨g, rfl⟩ : ∃ g, p = some ⟨g, 0, none⟩ := by
        rcases hO.row.2 with ⟨_, h0⟩ | ⟨g, cap, cur, hv, _⟩
        · omega
        · simp only [Value.slice.injEq] at hv
          exact ⟨g, hv.1⟩
      obtain ⟨s, t, d, xp, xn, xc, xs⟩ := x
      dsimp only at hxn hend hmk hlist
      obtain ⟨a1, ha1⟩ : ∃ a1 : Int, a1 = (m : Int) + 1 := ⟨_, rfl⟩
      obtain ⟨a2, ha2⟩ : ∃ a2 : Int, a2 = a1 + 1 := ⟨_, rfl⟩
      obtain ⟨a3, ha3⟩ : ∃ a3 : Int, a3 = a2 + 1 := ⟨_, rfl⟩
      have r1 : 0 ≤ a1 ∧ a1 ≤ 100000003 := by omega
      have r2 : 0 ≤ a2 ∧ a2 ≤ 100000003 := by omega
      have r3 : 0 ≤ a3 ∧ a3 ≤ 100000003 := by omega
      have n1 : ((m + 1 : Nat) : Int) = a1 := by omega
      have n2 : ((m + 2 : Nat) : Int) = a2 := by omega
      have n3 : ((m + 3 : Nat) : Int) = a3 := by omega
      rw [n1, n2, n3] at hlist
      have nE : Hid (a3 + (xn : Int) = ((m + 3 + xn : Nat) : Int)) := by rw [Hid]; omega
      replace hend : Hid (m + 3 + xn = mkK k (its.take (j + 1))) := hend.symm
      have CT := fun X => markText_any m X hm0 hm1
      have e1 : (m : Int) + 1 = a1 := ha1.symm
      have e2 : a1 + 1 = a2 := ha2.symm
      have e3 : a2 + 1 = a3 := ha3.symm
      clear ha1 ha2 ha3 n1 n2 n3 hx hdrop htake hA hB hm h
      go_wp2_with (fail)
      refine (CT _).mono ?_
      rintro z w2 ⟨rfl, b2⟩
      have hO2 := hO.on b2
      have hW2 := hW.below b2
      obtain ⟨y, hy⟩ : ∃ y : ItA, y = ⟨mtS m, a1, a2, xp, xn, xc, xs⟩ := ⟨_, rfl⟩
      obtain ⟨⟨u0, c0⟩, ⟨u1, c1⟩, ⟨u2, c2⟩, _, f0, f1, f2, _⟩ := store_item (k := j) y hO2.row hlt hO2.len
      have hset := flatI_set3 A B ⟨s, t, d, xp, xn, xc, xs⟩ y (by rw [hy]; rfl)
      rw [hAl] at hset
      have hrow3 := (((hO2.row.stored (j * 4) (.string y.s)).1.stored (j * 4 + 1) (.int .i64 y.t)).1.stored (j * 4 + 2) (.int .i64 y.d)).1
      rw [hset] at hrow3
      have hg3 : w2.grownBy (((w2.setCell ⟨g, j * 4, none⟩ (.string y.s)).setCell ⟨g, j * 4 + 1, none⟩ (.int .i64 y.t)).setCell ⟨g, j * 4 + 2, none⟩ (.int .i64 y.d)) (some g) := ((set_grown _ g _ _).trans (set_grown _ g _ _)).trans (set_grown _ g _ _)
      have hO3 := hO2.relabel (its' := A ++ y :: B) (by rw [hy]; simp [ItA.slice]) hrow3 hg3 rfl
      have c3 : (((w2.setCell ⟨g, j * 4, none⟩ (.string y.s)).setCell ⟨g, j * 4 + 1, none⟩ (.int .i64 y.t)).setCell ⟨g, j * 4 + 2, none⟩ (.int .i64 y.d)).cell? ⟨g, j * 4 + 3, none⟩ = some (.slice xp xn xc) := by
        rw [hrow3.cellAt _ (by omega), flatI_at _ j 3 (by decide) (by simp; omega)]
        rw [List.getD_eq_getElem?_getD, List.getElem?_append_right (by omega), hAl, Nat.sub_self, hy]
        rfl
      have hW3 := hW2.grown hg3 (fun q hq => by cases hq; exact ⟨(hO2.row.lt g rfl).1, hO2.top g rfl⟩)
      have oy : Own 5 (((w2.setCell ⟨g, j * 4, none⟩ (.string y.s)).setCell ⟨g, j * 4 + 1, none⟩ (.int .i64 y.t)).setCell ⟨g, j * 4 + 2, none⟩ (.int .i64 y.d)) lo hi (.slice xp xn xc) xn xs := by
        have := hO3.bytes y (by simp)
        rw [hy] at this ⊢
        exact this
      subst hy
      dsimp only at c1 c2 c3 f1 f2 oy hO3 hW3
      obtain ⟨X3, hX3⟩ : ∃ X3, X3 = ((w2.setCell ⟨g, j * 4, none⟩ (.string (mtS m))).setCell ⟨g, j * 4 + 1, none⟩ (.int .i64 a1)).setCell ⟨g, j * 4 + 2, none⟩ (.int .i64 a2) := ⟨_, rfl⟩
      rw [← hX3] at c3 oy hO3 hW3
      replace hX3 : Hid (((w2.setCell ⟨g, j * 4, none⟩ (.string (mtS m))).setCell ⟨g, j * 4 + 1, none⟩ (.int .i64 a1)).setCell ⟨g, j * 4 + 2, none⟩ (.int .i64 a2) = X3) := hX3.symm
      clear hO hO2 hrow3 hg3 hset hW hW2 b2 CT
      go_wp2_with (rw [hX3.out])
      refine (markByteS_own lo hi xp xn xc xs a3 X3 (by omega) r3.1 (by omega) oy).mono ?_
      rintro z w4 ⟨rfl, o4, g4⟩
      have hO4 := hO3.rebyte (x := ⟨mtS m, a1, a2, xp, xn, xc, xs⟩) (ys := marks a3 xn) o4 g4
      have hW4 := hW3.grown g4 (fun q hq => ⟨(oy.1.lt q hq).1, oy.2 q hq⟩)
      rw [← hlist.out] at hO4
      rw [nE.out]
      clear hO3 hW3 oy o4 g4 c0 c1 c2 c3 f0 f1 f2 hX3 hlist nE
      obtain ⟨m2, hm2⟩ : ∃ m2, m2 = m + 3 + xn := ⟨_, rfl⟩
      have hm3 : 0 < m2 ∧ m2 ≤ 100000000 := by omega
      rw [← hm2] at hend ⊢
      clear hm2
      go_wp2_with (fail)
      go_roundw
      case rel => exact ⟨j + 1, by omega, by go_num, ⟨m2, rfl, hm3.1, hm3.2, hend⟩, hO4, hW4⟩
      case measure => simp [intOf]; omega
    · have hjn : j = n := by omega
      subst hjn
      rw [show its.take j = its by rw [← hl, List.take_length]] at hm hO
      rw [show its.drop j = [] by rw [← hl, List.drop_length], List.append_nil] at hO
      go_wp2_with (fail)
      go_ret
      exact ⟨by rw [← hm.out]; rfl, hO, hW⟩

theorem mkI_at (k : Nat) (its : List ItA) (j : Nat) (h : j < its.length) : (mkI k its).getD j default = ⟨mtS (mkK k (its.take j)), ((mkK k (its.take j) + 1 : Nat) : Int), ((mkK k (its.take j) + 2 : Nat) : Int), (its.getD j default).p, (its.getD j default).n, (its.getD j default).c, marks ((mkK k (its.take j) + 3 : Nat) : Int) (its.getD j default).n⟩ := by
  have e : its = its.take j ++ its.getD j default :: its.drop (j + 1) := by
    conv => lhs; rw [← List.take_append_drop j its, List.drop_eq_getElem_cons h]
    rw [List.getD_eq_getElem?_getD, List.getElem?_eq_getElem h]; rfl
  have hl : (mkI k (its.take j)).length = j := by rw [mkI_length, List.length_take]; omega
  conv => lhs; rw [e, mkI_append]
  rw [List.getD_eq_getElem?_getD, List.getElem?_append_right (by omega), hl, Nat.sub_self]
  rfl

set_option maxHeartbeats 4000000 in
theorem heldItemS_any (p : Option Addr) (n c : Nat) (its : List ItA) (k : Nat) (w : World) (hn : n ≤ 1048577) (hl : its.length = n) (hk : 0 < k) (hk2 : mkK k its ≤ 100000000) (h : ItemsIn w p n (mkI k its)) (hb : ∀ x ∈ mkI k its, BytesIn w x.p x.n x.xs) :
    Calls Try.prog 38 #[.slice p n c, .int .i64 (k : Int)] w fun e w' => e = .returned (.int .i64 (mkK k its : Nat)) ∧ Below w.heap.size w w' := by
  go_enter Try.func38, Try.ntmps38
  go_wp2_with (fail)
  go_loopw [1, 5] (fun a i wr => ∃ j : Nat, j ≤ n ∧ i = .int .i64 j ∧ (∃ m : Nat, a = .int .i64 m ∧ 0 < m ∧ m ≤ 100000000 ∧ Hid (m = mkK k (its.take j))) ∧ Below w.heap.size w wr) (fun _ i _ => n - (intOf i).toNat)
  case atStart => exact ⟨0, Nat.zero_le _, rfl, ⟨k, rfl, hk, by rw [mkK_le] at hk2; omega, rfl⟩, Below.refl _ _⟩
  case round =>
    obtain ⟨j, hj, rfl, ⟨m, rfl, hm0, hm1, hm⟩, hbel⟩ := hrel
    by_cases hlt : j < n
    · have hat := mkI_at k its j (by omega)
      rw [← hm.out] at hat
      obtain ⟨x, hx⟩ : ∃ x, its.getD j default = x := ⟨_, rfl⟩
      rw [hx] at hat
      have htake : its.take (j + 1) = its.take j ++ [x] := by rw [take_getD (by omega), hx]
      have hend : mkK k (its.take (j + 1)) = m + 3 + x.n := by rw [htake, mkK_append, ← hm.out]; rfl
      have hmk : m + 3 + x.n ≤ 100000000 := by have := mkK_take k its (j + 1); omega
      have hbx := hb _ (getD_mem (l := mkI k its) (k := j) (by rw [mkI_length]; omega))
      rw [hat] at hbx
      dsimp only at hbx
      obtain ⟨_, _, _, xp, xn, xc, _⟩ := x
      dsimp only at hat hend hmk hbx
      obtain ⟨a1, ha1⟩ : ∃ a1 : Int, a1 = (m : Int) + 1 := ⟨_, rfl⟩
      obtain ⟨a2, ha2⟩ : ∃ a2 : Int, a2 = a1 + 1 := ⟨_, rfl⟩
      obtain ⟨a3, ha3⟩ : ∃ a3 : Int, a3 = a2 + 1 := ⟨_, rfl⟩
      have r1 : 0 ≤ a1 ∧ a1 ≤ 100000003 := by omega
      have r2 : 0 ≤ a2 ∧ a2 ≤ 100000003 := by omega
      have r3 : 0 ≤ a3 ∧ a3 ≤ 100000003 := by omega
      have n1 : ((m + 1 : Nat) : Int) = a1 := by omega
      have n2 : ((m + 2 : Nat) : Int) = a2 := by omega
      have n3 : ((m + 3 : Nat) : Int) = a3 := by omega
      rw [n1, n2, n3] at hat
      rw [n3] at hbx
      have nE : Hid (a3 + (xn : Int) = ((m + 3 + xn : Nat) : Int)) := by rw [Hid]; omega
      replace hend : Hid (m + 3 + xn = mkK k (its.take (j + 1))) := hend.symm
      have CT := fun X => markText_any m X hm0 hm1
      have e1 : (m : Int) + 1 = a1 := ha1.symm
      have e2 : a1 + 1 = a2 := ha2.symm
      have e3 : a2 + 1 = a3 := ha3.symm
      have t1 : (a1 != a1) = false := by simp
      have t2 : (a2 != a2) = false := by simp
      obtain ⟨S, hS⟩ : ∃ S, S = mtS m := ⟨_, rfl⟩
      rw [← hS] at hat CT
      have tS : (S.toList == S.toList) = true := by simp
      obtain ⟨b, o, hp, hc⟩ := itemsIn_on h hbel (by omega)
      subst hp
      have HK : ∀ w', Below wr.heap.size wr w' → w'.cell? ⟨b, o + j * 4, none⟩ = some (.string S) ∧ w'.cell? ⟨b, o + j * 4 + 1, none⟩ = some (.int .i64 a1) ∧ w'.cell? ⟨b, o + j * 4 + 2, none⟩ = some (.int .i64 a2) ∧ w'.cell? ⟨b, o + j * 4 + 3, none⟩ = some (.slice xp xn xc) := fun w' hX => by
        obtain ⟨l0, l1, l2, l3⟩ := ItemsIn.at hc hlt hat
        exact ⟨(hX.cell (World.block_lt_of_cell? wr _ l0)).trans l0, (hX.cell (World.block_lt_of_cell? wr _ l1)).trans l1, (hX.cell (World.block_lt_of_cell? wr _ l2)).trans l2, (hX.cell (World.block_lt_of_cell? wr _ l3)).trans l3⟩
      have hbw := in_below hbx hbel
      have bdr : Below wr.heap.size wr wr.drew := (Below.refl _ _).drew
      clear ha1 ha2 ha3 n1 n2 n3 hx htake hm h hb hat hc hS hbx
      go_wp2_with (fail)
      go_region_held3 (fun w' => w'.cell? ⟨b, o + j * 4, none⟩ = some (.string S) ∧ w'.cell? ⟨b, o + j * 4 + 1, none⟩ = some (.int .i64 a1) ∧ w'.cell? ⟨b, o + j * 4 + 2, none⟩ = some (.int .i64 a2) ∧ w'.cell? ⟨b, o + j * 4 + 3, none⟩ = some (.slice xp xn xc)) (exact HK _ (by repeat (with_reducible (first | exact Below.refl _ _ | refine below_drewL ?_ | refine below_on ?_ b2)))) (first | (go_at_call 65; refine (CT _).mono ?_; rintro z w2 ⟨rfl, b2⟩))
      have k2 := below_on bdr b2
      obtain ⟨_, l1, l2, l3⟩ := HK w2 k2
      have hbel2 := below_on hbel k2
      have hb2 := in_below hbw k2
      clear HK CT bdr b2 hbw k2
      go_wp2_with (fail)
      refine (heldByteS_any xp xn xc a3 w2 (by omega) r3.1 (by omega) hb2).mono ?_
      rintro z w4 ⟨rfl, b4⟩
      have hbel4 := below_on hbel2 b4
      rw [nE.out]
      obtain ⟨m2, hm2⟩ : ∃ m2, m2 = m + 3 + xn := ⟨_, rfl⟩
      have hm3 : 0 < m2 ∧ m2 ≤ 100000000 := by omega
      have hm4 : ¬ (m2 : Int) < 0 := by omega
      rw [← hm2] at hend ⊢
      clear hm2 l1 l2 l3 hbel2 hb2 b4 nE
      go_wp2_with (fail)
      go_roundw
      case rel => exact ⟨j + 1, by omega, by go_num, ⟨m2, rfl, hm3.1, hm3.2, hend⟩, hbel4⟩
      case measure => simp [intOf]; omega
    · have hjn : j = n := by omega
      subst hjn
      rw [show its.take j = its by rw [← hl, List.take_length]] at hm
      go_wp2_with (fail)
      go_ret
      exact ⟨by rw [← hm.out]; rfl, hbel⟩

theorem markItem_own (lo hi : Nat) (s : ByteArray) (t d : Int) (p : Option Addr) (n c : Nat) (xs : List Int) (k : Int) (w : World) (hn : n ≤ 1048576) (hk : 0 ≤ k) (hk2 : k ≤ 100000000) (h : Own 5 w lo hi (.slice p n c) n xs) :
    Calls Try.prog 37 #[.agg #[.string s, .int .i64 t, .int .i64 d, .slice p n c], .int .i64 k] w fun e w' => e = .returned (.int .i64 (k + n)) ∧ Own 5 w' lo hi (.slice p n c) n (marks k n) ∧ Within lo hi w w' ∧ ∃ wa, Below w.heap.size w wa ∧ wa.grownBy w' (Value.slice p n c).ownBlock := by
  have kA : ∀ o, Below w.heap.size w (w.alloc o) := fun o => made_below _ _ (Below.refl _ _)
  go_enter Try.func37, Try.ntmps37
  go_wp2_with (fail)
  refine (markByteS_own lo hi p n c xs k _ (by omega) hk (by omega) (h.on (kA _))).mono ?_
  rintro z w1 ⟨rfl, r1, g1⟩
  have W1 := (((Within.refl lo hi w).below (kA _)).grown g1 (fun q hq => ⟨(h.1.lt q hq).1, h.2 q hq⟩))
  have hex : ∃ wa, Below w.heap.size w wa ∧ wa.grownBy w1 (Value.slice p n c).ownBlock := ⟨_, kA _, g1⟩
  obtain ⟨q, hq⟩ : ∃ q : Int, q = k + n := ⟨_, rfl⟩
  rw [← hq]
  clear g1 kA h
  go_wp2_with (fail)
  go_ret
  exact ⟨by rw [← hq]; rfl, r1, W1, hex⟩

theorem heldItem_any (s : ByteArray) (t d : Int) (p : Option Addr) (n c : Nat) (k : Int) (w : World) (hn : n ≤ 1048576) (hk : 0 ≤ k) (hk2 : k ≤ 100000000) (h : BytesIn w p n (marks k n)) :
    Calls Try.prog 39 #[.agg #[.string s, .int .i64 t, .int .i64 d, .slice p n c], .int .i64 k] w fun e w' => e = .returned (.int .i64 (k + n)) ∧ Below w.heap.size w w' := by
  have kA : ∀ o, Below w.heap.size w (w.alloc o) := fun o => made_below _ _ (Below.refl _ _)
  go_enter Try.func39, Try.ntmps39
  go_wp2_with (fail)
  refine (heldByteS_any p n c k _ (by omega) hk (by omega) (in_below h (kA _))).mono ?_
  rintro z w1 ⟨rfl, b1⟩
  have k1 := below_on (kA _) b1
  obtain ⟨q, hq⟩ : ∃ q : Int, q = k + n := ⟨_, rfl⟩
  have hq0 : ¬ q < 0 := by omega
  rw [← hq]
  clear b1 kA h
  go_wp2_with (fail)
  go_ret
  exact ⟨by rw [← hq]; rfl, k1⟩

end Go.Proofs.Ytggbmpgpopenoaa
