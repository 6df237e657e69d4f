/-
  The first item of a route, and the others, as the specification takes it. Conditions: items that lie there, as many as a law hands over.
  The laws' marks in lists of items: laid, and found again. Conditions: rows of one's own, numbers that are not great.
  What the laws of lists of items that are answered are told. Conditions: none beyond each fact's own.
  The library's sort, as the kit knows it, at this program: each of its functions and types is the program's own. No condition.
  Whether a row of a shelf is right: the closure that asks for a topic, the library's search, rowOk. Conditions: a row that lies there.
-/
import Derived.Test.YtkdbcplcpcdnbaaPart03
import Derived.Maps.AppendAt
import Derived.Test.YtkdbcplcpcdnbaaPart02
import Derived.Shelf.SlSortCmp.NoneTotal
import Derived.Test.YtkdbcplcpcdnbaaChecked
namespace Go.Proofs.Ytkdbcplcpcdnbaa
open Go.RowKit
set_option maxRecDepth 100000

/-- The first one of a route, the others, and whether there is one. -/
def takeF (s : ByteArray) : List ItA → Option (ItA × List ItA)
  | [] => none
  | x :: r => if x.s = s then some (x, r) else (takeF s r).map fun z => (z.1, x :: z.2)
def takeX (s : ByteArray) (its : List ItA) : ItA := ((takeF s its).map Prod.fst).getD default
def takeL (s : ByteArray) (its : List ItA) : List ItA := ((takeF s its).map Prod.snd).getD its
theorem takeF_none {s : ByteArray} : ∀ {its : List ItA}, (∀ x ∈ its, x.s ≠ s) → takeF s its = none
  | [], _ => rfl
  | x :: r, h => by simp [takeF, h x (by simp), takeF_none (its := r) (fun y hy => h y (by simp [hy]))]
theorem takeF_some {s : ByteArray} : ∀ {its : List ItA} {k : Nat}, (∀ x ∈ its.take k, x.s ≠ s) → k < its.length → (its.getD k default).s = s → takeF s its = some (its.getD k default, its.take k ++ its.drop (k + 1))
  | [], k, _, h, _ => by simp at h
  | x :: r, 0, _, _, h => by simp at h; simp [takeF, h]
  | x :: r, k + 1, h1, h2, h3 => by
    have hx : x.s ≠ s := h1 x (by simp)
    have ih := takeF_some (its := r) (k := k) (fun y hy => h1 y (by simp [hy])) (by simpa using h2) (by simpa using h3)
    simp [takeF, hx, ih]

/-- An item and a list of items, each in memory of its own. -/
structure Taken (w : World) (lo hi : Nat) (x : ItA) (v : Value) (n : Nat) (its : List ItA) : Prop where
  list : OwnItems w lo hi v n its
  one : Own 5 w lo hi x.slice x.n x.xs
  off : x.slice.ownBlock = none ∨ x.slice.ownBlock ≠ v.ownBlock
  apart : ∀ y ∈ its, y.slice.ownBlock = none ∨ y.slice.ownBlock ≠ x.slice.ownBlock
theorem Taken.on {w w' : World} {lo hi : Nat} {x : ItA} {v : Value} {n : Nat} {its : List ItA} (h : Taken w lo hi x v n its) (b : Below w.heap.size w w') : Taken w' lo hi x v n its := ⟨h.list.on b, h.one.on b, h.off, h.apart⟩

theorem slice_items (b o m cc h : Nat) (hc : h ≤ cc) (W : World) : (Instr.slice 24 (.slice (some ⟨b, o, none⟩) m cc) none (some (.int .i64 (h : Int))) none).run Try.prog W = .ok (.slice (some ⟨b, o, none⟩) h cc) W := by
  have ht' : Try.prog.underlying 24 = some (.slice (Try.prog.elem 24)) := by simp [Program.elem, Try.underlying24]
  have he : Try.prog.elem 24 = 26 := by simp [Program.elem, Try.underlying24]
  rw [run_slice_h W 24 _ _ _ ht' .i64 h (by omega) (by omega), he]
  simp [sliced, Addr.add]
theorem slice_itemsB (b o m cc l : Nat) (h : l ≤ m) (hc : m ≤ cc) : ∃ q, Hid (l < m → q = some ⟨b, o + l * 4, none⟩) ∧ ∀ W, (Instr.slice 24 (.slice (some ⟨b, o, none⟩) m cc) (some (.int .i64 (l : Int))) none none).run Try.prog W = .ok (.slice q (m - l) (cc - l)) W := by
  have ht' : Try.prog.underlying 24 = some (.slice (Try.prog.elem 24)) := by simp [Program.elem, Try.underlying24]
  have he : Try.prog.elem 24 = 26 := by simp [Program.elem, Try.underlying24]
  refine ⟨if cc = l then some ⟨b, o, none⟩ else some ⟨b, o + l * 4, none⟩, fun h64 => if_neg (by omega), fun W => ?_⟩
  rw [run_slice_l W 24 _ _ _ ht' .i64 l (by omega) (by omega), he]
  by_cases e : cc = l
  · simp [sliced, e]
  · rcases Nat.eq_zero_or_pos l with h0 | h0
    · subst h0
      simp [sliced, Addr.add]
    · simp [sliced, Addr.add, e]
      omega

/-- An item stored whole into a variable: what each step meets. -/
theorem itemStore {w1 : World} {R : Nat} {A : Array Value} (C1 : Cells w1 R A) (hA : A.size = 4) (s : ByteArray) (t d : Int) (p : Option Addr) (n c : Nat) :
    ∃ X, Hid ((((w1.setCell ⟨R, 0, none⟩ (.string s)).setCell ⟨R, 1, none⟩ (.int .i64 t)).setCell ⟨R, 2, none⟩ (.int .i64 d)).setCell ⟨R, 3, none⟩ (.slice p n c) = X) ∧
      (∃ u, w1.cell? ⟨R, 0, none⟩ = some u) ∧ w1.frozen? ⟨R, 0, none⟩ = false ∧ (∃ u, (w1.setCell ⟨R, 0, none⟩ (.string s)).cell? ⟨R, 1, none⟩ = some u) ∧ (w1.setCell ⟨R, 0, none⟩ (.string s)).frozen? ⟨R, 1, none⟩ = false ∧
      (∃ u, ((w1.setCell ⟨R, 0, none⟩ (.string s)).setCell ⟨R, 1, none⟩ (.int .i64 t)).cell? ⟨R, 2, none⟩ = some u) ∧ ((w1.setCell ⟨R, 0, none⟩ (.string s)).setCell ⟨R, 1, none⟩ (.int .i64 t)).frozen? ⟨R, 2, none⟩ = false ∧
      (∃ u, (((w1.setCell ⟨R, 0, none⟩ (.string s)).setCell ⟨R, 1, none⟩ (.int .i64 t)).setCell ⟨R, 2, none⟩ (.int .i64 d)).cell? ⟨R, 3, none⟩ = some u) ∧ (((w1.setCell ⟨R, 0, none⟩ (.string s)).setCell ⟨R, 1, none⟩ (.int .i64 t)).setCell ⟨R, 2, none⟩ (.int .i64 d)).frozen? ⟨R, 3, none⟩ = false ∧
      X.cell? ⟨R, 0, none⟩ = some (.string s) ∧ X.cell? ⟨R, 1, none⟩ = some (.int .i64 t) ∧ X.cell? ⟨R, 2, none⟩ = some (.int .i64 d) ∧ X.cell? ⟨R, 3, none⟩ = some (.slice p n c) ∧ Hid (X.heap.size = w1.heap.size) ∧ Hid (w1.grownBy X (some R)) := by
  have D1 := C1.set 0 (by omega) (.string s)
  have D2 := D1.set 1 (by simp; omega) (.int .i64 t)
  have D3 := D2.set 2 (by simp; omega) (.int .i64 d)
  have D4 := D3.set 3 (by simp; omega) (.slice p n c)
  have so : ∀ {B : Array Value} {i : Nat}, i < B.size → ∃ u, B[i]? = some u := fun hi => ⟨_, Array.getElem?_eq_getElem hi⟩
  refine ⟨_, rfl, ?_, (C1.2 0).2, ?_, (D1.2 1).2, ?_, (D2.2 2).2, ?_, (D3.2 3).2, ?_, ?_, ?_, ?_, by simp [Hid], ((((set_grown _ _ _ _).trans (set_grown _ _ _ _)).trans (set_grown _ _ _ _)).trans (set_grown _ _ _ _))⟩
  · rw [(C1.2 0).1]; exact so (by omega)
  · rw [(D1.2 1).1]; exact so (by simp; omega)
  · rw [(D2.2 2).1]; exact so (by simp; omega)
  · rw [(D3.2 3).1]; exact so (by simp; omega)
  · rw [(D4.2 0).1]; simp [hA]
  · rw [(D4.2 1).1]; simp [hA]
  · rw [(D4.2 2).1]; simp [hA]
  · rw [(D4.2 3).1]; simp [hA]
theorem Own.keptLow {e : Nat} {w w' : World} {lo hi R : Nat} {v : Value} {n : Nat} {xs : List Int} (h : Own e w lo hi v n xs) (hg : w.grownBy w' (some R)) (hR : R < lo) : Own e w' lo hi v n xs :=
  ⟨h.1.kept hg (.inr fun k => by have := (h.1.lt R k).1; omega), h.2⟩
theorem OwnItems.keptLow {w w' : World} {lo hi R : Nat} {v : Value} {n : Nat} {its : List ItA} (h : OwnItems w lo hi v n its) (hg : w.grownBy w' (some R)) (hR : R < lo) : OwnItems w' lo hi v n its :=
  ⟨h.len, h.row.kept hg (.inr fun k => by have := (h.row.lt R k).1; omega), h.top, fun x hx => (h.bytes x hx).keptLow hg hR, h.apart, h.pair⟩

/-- An append whose run is known, as one step of a region that draws its order. -/
theorem step_append_run {P : Program} {ops : Array Oper} {o : Oper} {a : Act} {K : Act → World → Prop} {Q : Exit → Act → World → Prop} {E : Prop} {w w' : World} (hgd : o.guard = none) (s y : Operand) (t : TypeId) (ho : o.op = .call { callee := .builtin .append, args := #[s, y], argTypes := #[t, t] })
    (vs vy v : Value) (hs : a.eval s = vs) (hy : a.eval y = vy) (hr : (Builtin.append_ #[t, t] o.type #[vs, vy]).run P w = .ok v w') (h : K (a.put o.dst v) w') : if Region.wanted o (yielded ops a.tmps) = true then Oper.wp P o a w K Q else E := by
  have hw : Region.wanted o (yielded ops a.tmps) = true := by simp [Region.wanted, hgd]
  rw [if_pos hw]
  unfold Oper.wp execOp
  simp only [ho, resolve, invoke, builtin, Sem.run_bind, Sem.run_pure, Result.andThen_ok, List.map_toArray, List.map_cons, List.map_nil, hs, hy, hr]
  exact h

/-- Two rows of items of one's own, one behind the other. -/
theorem OwnItems.concat {w w' : World} {lo mid n m g : Nat} {v v' u : Value} {A B : List ItA} (h : OwnItems w lo mid v n A) (k : OwnItems w mid w.heap.size u m B) (hlm : lo ≤ mid) (hmw : mid ≤ w.heap.size) (hv : v.ownBlock = some g)
    (hrow : w'.ownsRow lo 26 4 v' (n + m) (flatI A ++ flatI B)) (hg : w.grownBy w' v.ownBlock) (hloc : v'.ownBlock = v.ownBlock ∨ v'.ownBlock = some w.heap.size) : OwnItems w' lo w'.heap.size v' (n + m) (A ++ B) := by
  have hz := hg.size
  have hgm : g < mid := h.top g hv
  have low : ∀ x ∈ A, ∀ j, x.slice.ownBlock = some j → j < mid := fun x hx j hj => (h.bytes x hx).2 j hj
  have high : ∀ x ∈ B, ∀ j, x.slice.ownBlock = some j → mid ≤ j ∧ j < w.heap.size := fun x hx j hj => ⟨((k.bytes x hx).1.lt j hj).1, (k.bytes x hx).2 j hj⟩
  have hB : ∀ x ∈ B, x.slice.ownBlock = none ∨ x.slice.ownBlock ≠ v.ownBlock := fun x hx => by
    rcases e : x.slice.ownBlock with _ | j
    · exact .inl rfl
    · right
      rw [hv]
      have := (high x hx j e).1
      simp only [ne_eq, Option.some.injEq]
      omega
  have far : ∀ x : ItA, (x.slice.ownBlock = none ∨ x.slice.ownBlock ≠ v.ownBlock) → (∀ j, x.slice.ownBlock = some j → j < w.heap.size) → x.slice.ownBlock = none ∨ x.slice.ownBlock ≠ v'.ownBlock := fun x hx hj => by
    rcases hloc with e | e
    · rw [e]; exact hx
    · rcases e2 : x.slice.ownBlock with _ | j
      · exact .inl rfl
      · right
        rw [e]
        have := hj j e2
        simp only [ne_eq, Option.some.injEq]
        omega
  refine ⟨by simp [h.len, k.len], by rw [flatI_append]; exact hrow, fun j hj => (hrow.lt j hj).2, fun x hx => ?_, fun x hx => ?_, ?_⟩
  · rcases List.mem_append.1 hx with hx | hx
    · exact Own.wide (w := w') (lo := lo) (hi := mid) ⟨(h.bytes x hx).1.kept hg (h.apart x hx), (h.bytes x hx).2⟩ (Nat.le_refl _) (by omega)
    · exact Own.wide (w := w') (lo := mid) (hi := w.heap.size) ⟨(k.bytes x hx).1.kept hg (hB x hx), (k.bytes x hx).2⟩ hlm hz
  · rcases List.mem_append.1 hx with hx | hx
    · exact far x (h.apart x hx) (fun j hj => by have := low x hx j hj; omega)
    · exact far x (hB x hx) (fun j hj => (high x hx j hj).2)
  · rw [List.pairwise_append]
    refine ⟨h.pair, k.pair, fun x hx y hy => ?_⟩
    rcases e : x.slice.ownBlock with _ | j
    · exact .inl rfl
    · right
      intro e2
      have h1 := low x hx j e
      have h2 := (high y hy j e2.symm).1
      omega

theorem run_concatItems {w : World} {lo mid n m ga ca gb cb : Nat} {A B : List ItA} (h : OwnItems w lo mid (.slice (some ⟨ga, 0, none⟩) n ca) n A) (k : OwnItems w mid w.heap.size (.slice (some ⟨gb, 0, none⟩) m cb) m B) (hlm : lo ≤ mid) (hmw : mid ≤ w.heap.size) (hn : n ≤ 1048576) (hm : m ≤ 1048576) (ty : TypeId) :
    ∃ p' cap w', (Builtin.append_ #[24, 24] ty #[.slice (some ⟨ga, 0, none⟩) n ca, .slice (some ⟨gb, 0, none⟩) m cb]).run Try.prog w = .ok (.slice p' (n + m) cap) w' ∧ OwnItems w' lo w'.heap.size (.slice p' (n + m) cap) (n + m) (A ++ B) ∧ Below lo w w' := by
  obtain ⟨i0, hi, hz0, hz1, hz2⟩ := info_parts infoItem
  obtain ⟨v', w', hr, ho, hg, _, hloc⟩ := run_append_own_at (P := Try.prog) w lo 24 ty 26 i0 _ 4 56 Try.underlying24 hi hz0 hz1 hz2 rfl (by decide) (.slice (some ⟨ga, 0, none⟩) n ca) n (flatI A) h.row ⟨gb, 0, none⟩ m cb (flatI B) k.row.1 (k.row.cells (g := gb) rfl) (fun u hu => by
    obtain ⟨x, _, hx⟩ := List.mem_flatMap.1 hu
    exact vals_one x u hx) (by unfold maxLen; omega) (by omega) (by omega)
  obtain ⟨p', cap, rfl⟩ := owns_form ho
  exact ⟨p', cap, w', hr, h.concat k hlm hmw rfl ho hg hloc, (Below.refl _ _).grown hg (by omega) (fun j hj => (h.row.lt j hj).1)⟩

set_option maxHeartbeats 8000000 in
theorem specTake_any (p : Option Addr) (n c : Nat) (its : List ItA) (s : ByteArray) (w : World) (hn : n ≤ 1048576) (hnc : n ≤ c) (hl : its.length = n) (h : ItemsIn w p n its) (li : ∀ x ∈ its, x.Lies w) (fit : ∀ x ∈ its, x.n ≤ 1048576) :
    Calls Try.prog 12 #[.slice p n c, .string s] w fun e w' => ∃ (y : ItA) (q : Option Addr) (cq : Nat) (its' : List ItA), e = .returned (.tuple #[.agg #[.string y.s, .int .i64 y.t, .int .i64 y.d, .slice y.p y.n y.c], .slice q (takeL s its).length cq, .bool (takeF s its).isSome]) ∧
      Taken w' w.heap.size w'.heap.size y (.slice q (takeL s its).length cq) (takeL s its).length its' ∧ Hid (y.con = (takeX s its).con) ∧ Hid (its'.map ItA.con = (takeL s its).map ItA.con) ∧ Below w.heap.size w w' := by
  obtain ⟨w1, hw1⟩ : ∃ w1, w1 = w.alloc (.cells #[.string { data := #[] }, .int .i64 0, .int .i64 0, .slice none 0 0] 26) := ⟨_, rfl⟩
  have b1 : Below w.heap.size w w1 := by rw [hw1]; exact made_below _ _ (Below.refl _ _)
  have C1 : Cells w1 w.heap.size #[.string { data := #[] }, .int .i64 0, .int .i64 0, .slice none 0 0] := by rw [hw1]; exact Cells.made _ _ _
  have z1 : w1.heap.size = w.heap.size + 1 := by rw [hw1]; simp
  replace hw1 : Hid (w.alloc (.cells #[.string { data := #[] }, .int .i64 0, .int .i64 0, .slice none 0 0] 26) = w1) := hw1.symm
  obtain ⟨R, hRR⟩ : ∃ R, R = w.heap.size := ⟨_, rfl⟩
  go_enter Try.func12, Try.ntmps12
  go_wp2_with (rw [hw1.out])
  rw [← hRR] at C1 ⊢
  have hRl : R < w1.heap.size := by omega
  have hwR : w.heap.size ≤ R := by omega
  clear hw1 hRR z1
  go_loopw [7] (fun i wr => ∃ k : Nat, k ≤ n ∧ i = .int .i64 k ∧ Hid (∀ x ∈ its.take k, x.s ≠ s) ∧ wr = w1) (fun i _ => n - (intOf i).toNat)
  case atStart => exact ⟨0, Nat.zero_le _, rfl, fun x hx => by simp at hx, rfl⟩
  case round =>
    obtain ⟨k, hk, rfl, hno, rfl⟩ := hrel
    by_cases hlt : k < n
    · obtain ⟨b, o, rfl, hc⟩ := itemsIn_on h b1 (by omega)
      obtain ⟨x, hx⟩ : ∃ x, its.getD k default = x := ⟨_, rfl⟩
      obtain ⟨l0, l1, l2, l3⟩ := ItemsIn.at hc hlt hx
      have hxm : x ∈ its := hx ▸ getD_mem (by omega)
      by_cases hxs : x.s = s
      · subst hxs
        have hF := takeF_some (s := x.s) (its := its) (k := k) hno.out (by omega) (by rw [hx])
        rw [hx] at hF
        have hTX : Hid ((takeX x.s its) = x) := by rw [Hid, takeX, hF]; rfl
        have hTL : Hid ((takeL x.s its) = its.take k ++ its.drop (k + 1)) := by rw [Hid, takeL, hF]; rfl
        have hTS : (takeF x.s its).isSome = true := by rw [hF]; rfl
        have lx := (li x hxm).on b1
        have hnx := fit x hxm
        have bdr : Below wr.heap.size wr wr.drew := (Below.refl _ _).drew
        have kdr := below_on b1 bdr
        obtain ⟨q2, hq2e, hq2⟩ := slice_itemsB b o n c (k + 1) (by omega) hnc
        have hk1 : ((k + 1 : Nat) : Int) = (k : Int) + 1 := by omega
        rw [hk1] at hq2
        clear hk1
        have hIA : ItemsIn wr.drew (some ⟨b, o, none⟩) k (its.take k) := fun _ => ⟨b, o, rfl, fun i j v hi hv => by
          have := hc i j v (by omega) (by rw [← hv]; congr 2; rw [List.getD_eq_getElem?_getD, List.getD_eq_getElem?_getD, List.getElem?_take, if_pos hi])
          exact this⟩
        have hIB : ∀ X, Below wr.drew.heap.size wr.drew X → ItemsIn X q2 (n - (k + 1)) (its.drop (k + 1)) := fun X bX hpos => by
          refine ⟨b, o + (k + 1) * 4, hq2e.out (by omega), fun i j v hi hv => ?_⟩
          have e := hc (k + 1 + i) j v (by omega) (by rw [← hv]; congr 2; rw [List.getD_eq_getElem?_getD, List.getD_eq_getElem?_getD, List.getElem?_drop])
          have hb' := World.block_lt_of_cell? wr _ e
          rw [show o + (k + 1) * 4 + i * 4 + j = o + (k + 1 + i) * 4 + j by omega, (below_on bdr bX).cell hb']
          exact e
        have CA := l13Queue_own (some ⟨b, o, none⟩) k c (its.take k) wr.drew (by omega) (by rw [List.length_take]; omega) hIA (fun y hy => (li y (List.mem_of_mem_take hy)).on kdr) (fun y hy => fit y (List.mem_of_mem_take hy))
        have CB := fun X (bX : Below wr.drew.heap.size wr.drew X) => l13Queue_own q2 (n - (k + 1)) (c - (k + 1)) (its.drop (k + 1)) X (by omega) (by rw [List.length_drop]; omega) (hIB X bX) (fun y hy => (li y (List.mem_of_mem_drop hy)).on (below_on kdr bX)) (fun y hy => fit y (List.mem_of_mem_drop hy))
        have hIX := fun X (bX : Below wr.heap.size wr X) => ItemsIn.at (fun i j v hi hv => by
          have e := hc i j v hi hv
          exact (bX.cell (World.block_lt_of_cell? wr _ e)).trans e) hlt hx
        obtain ⟨_, lx1, lx2⟩ := lx
        clear hno hc hx hxm hF hIA hIB h li fit
        go_wp2_with (fail)
        refine wp_region_noPanic ?_
        refine wp_region_T 10 (fun _ => True) (fun _ => True) (by kernel_rfl) ?_
        refine anyT_takeT (i := 0) (v := .slice (some ⟨b, o, none⟩) n c) rfl (by kernel_rfl) (by kernel_rfl) (by kernel_rfl) (by kernel_rfl) (fun _ _ _ h => h) (Or.inl ⟨by rfl, fun X _ => by go_simp⟩) trivial (fun _ => trivial) ?_
        simp only [Act.put, List.getElem_toArray, List.getElem_cons_zero, List.setIfInBounds_toArray, List.set_cons_zero, List.set_cons_succ]
        refine anyT_takeT (i := 1) (v := .int .i64 (k : Int)) rfl (by kernel_rfl) (by kernel_rfl) (by kernel_rfl) (by kernel_rfl) (fun _ _ _ h => h) (Or.inl ⟨by rfl, fun X _ => by go_simp⟩) trivial (fun _ => trivial) ?_
        simp only [Act.put, List.getElem_toArray, List.getElem_cons_zero, List.getElem_cons_succ, List.setIfInBounds_toArray, List.set_cons_zero, List.set_cons_succ]
        refine anyT_takeT (i := 2) (v := .slice (some ⟨b, o, none⟩) k c) rfl (by kernel_rfl) (by kernel_rfl) (by kernel_rfl) (by kernel_rfl) (fun _ _ _ h => h) (Or.inl ⟨by rfl, fun X _ => by (have hsl := slice_items b o n c k (by omega) X; go_simp)⟩) trivial (fun _ => trivial) ?_
        simp only [Act.put, List.getElem_toArray, List.getElem_cons_zero, List.getElem_cons_succ, List.setIfInBounds_toArray, List.set_cons_zero, List.set_cons_succ]
        refine anyT_takeT (i := 4) (v := .slice (some ⟨b, o, none⟩) n c) rfl (by kernel_rfl) (by kernel_rfl) (by kernel_rfl) (by kernel_rfl) (fun _ _ _ h => h) (Or.inl ⟨by rfl, fun X _ => by go_simp⟩) trivial (fun _ => trivial) ?_
        simp only [Act.put, List.getElem_toArray, List.getElem_cons_zero, List.getElem_cons_succ, List.setIfInBounds_toArray, List.set_cons_zero, List.set_cons_succ]
        refine anyT_takeT (i := 5) (v := .int .i64 (k : Int)) rfl (by kernel_rfl) (by kernel_rfl) (by kernel_rfl) (by kernel_rfl) (fun _ _ _ h => h) (Or.inl ⟨by rfl, fun X _ => by go_simp⟩) trivial (fun _ => trivial) ?_
        simp only [Act.put, List.getElem_toArray, List.getElem_cons_zero, List.getElem_cons_succ, List.setIfInBounds_toArray, List.set_cons_zero, List.set_cons_succ]
        refine anyT_takeT (i := 6) (v := .int .i64 ((k : Int) + 1)) rfl (by kernel_rfl) (by kernel_rfl) (by kernel_rfl) (by kernel_rfl) (fun _ _ _ h => h) (Or.inl ⟨by rfl, fun X _ => by (go_simp; exact IntWalk.i64_in _ (by omega))⟩) trivial (fun _ => trivial) ?_
        simp only [Act.put, List.getElem_toArray, List.getElem_cons_zero, List.getElem_cons_succ, List.setIfInBounds_toArray, List.set_cons_zero, List.set_cons_succ]
        refine anyT_takeT (i := 7) (v := .slice q2 (n - (k + 1)) (c - (k + 1))) rfl (by kernel_rfl) (by kernel_rfl) (by kernel_rfl) (by kernel_rfl) (fun _ _ _ h => h) (Or.inl ⟨by rfl, fun X _ => by (have hsl := hq2 X; go_simp)⟩) trivial (fun _ => trivial) ?_
        simp only [Act.put, List.getElem_toArray, List.getElem_cons_zero, List.getElem_cons_succ, List.setIfInBounds_toArray, List.set_cons_zero, List.set_cons_succ]
        refine anyT_one (i := 3) (by kernel_rfl) rfl (fun K hK => ?_)
        go_simp
        refine CA.mono ?_
        rintro e w3 ⟨ga, ca, A, rfl, oA, eA, bA⟩
        go_simp
        refine hK.out _ _ trivial (fun _ => trivial) ?_
        clear hK K CA
        refine anyT_one (i := 8) (by kernel_rfl) rfl (fun K hK => ?_)
        go_simp
        refine (CB _ bA).mono ?_
        rintro e w4 ⟨gb, cb, B, rfl, oB, eB, bB⟩
        go_simp
        refine hK.out _ _ trivial (fun _ => trivial) ?_
        clear hK K CB
        have zA := bA.size
        have zB := bB.size
        obtain ⟨p5, c5, w5, hrun5, o5, b5⟩ := run_concatItems (oA.on bB) oB (by omega) zB (by omega) (by omega) 24
        refine anyT_one (i := 9) (by kernel_rfl) rfl (fun K hK => ?_)
        refine step_append_run rfl _ _ 24 rfl _ _ _ rfl rfl hrun5 ?_
        refine hK.out _ _ trivial (fun _ => trivial) ?_
        clear hK K
        simp only [Act.put, List.getElem_toArray, List.getElem_cons_zero, List.getElem_cons_succ, List.setIfInBounds_toArray, List.set_cons_zero, List.set_cons_succ]
        refine anyT_one (i := 10) (by kernel_rfl) rfl (fun K hK => ?_)
        go_simp
        refine hK.out _ _ trivial (fun _ => trivial) ?_
        clear hK K
        refine anyT_done (by kernel_rfl) ?_ _
        refine NoPanic.normal ?_
        have kw5 : Below wr.heap.size wr w5 := below_on bdr ((below_on bA bB).trans (b5.mono (by exact Nat.le_refl _)))
        have z5 := kw5.size
        have hk5 : Below w.heap.size w w5 := below_on b1 kw5
        obtain ⟨m0, m1, m2, m3⟩ := hIX w5 kw5
        have lx5 := in_below lx2 kw5
        have C5 := C1.on kw5
        have eAB : Hid ((A ++ B).map ItA.con = (its.take k ++ its.drop (k + 1)).map ItA.con) := by rw [Hid, List.map_append, List.map_append, eA.out, eB.out]
        have hnm : k + (n - (k + 1)) = (its.take k ++ its.drop (k + 1)).length := by rw [List.length_append, List.length_take, List.length_drop]; omega
        rw [← hTL.out] at hnm eAB
        clear hIX kw5 b5 bA bB oA oB hrun5 hq2 lx2 bdr kdr hq2e zA zB eA eB
        go_wp2_with (fail)
        refine (l13Item_own x.s x.t x.d x.p x.n x.c x.xs _ hnx lx1 lx5).mono ?_
        rintro e w6 ⟨p6, c6, rfl, r6, b6⟩
        have z6 := b6.size
        have o6 := (o5.on b6).wide (lo' := wr.heap.size) (hi' := w6.heap.size) (Nat.le_refl _) z6
        have hap := fresh_apart o5 (x := ⟨x.s, x.t, x.d, p6, x.n, c6, x.xs⟩) r6
        have k6 : Below w.heap.size w w6 := below_on hk5 b6
        obtain ⟨X, hX, ⟨u0, y0⟩, f0, ⟨u1, y1⟩, f1, ⟨u2, y2⟩, f2, ⟨u3, y3⟩, f3, q0, q1, q2', q3, hsz, hgX⟩ := itemStore (C5.on b6) rfl x.s x.t x.d p6 x.n c6
        have oX := o6.keptLow hgX.out (by omega)
        have rX := (r6.wide (lo' := wr.heap.size) (by omega) (Nat.le_refl _)).keptLow hgX.out (by omega)
        have kX : Below w.heap.size w X := k6.grown hgX.out k6.size (fun j hj => by cases hj; exact hwR)
        clear hgX o5 o6 r6 b6 k6 C5
        go_wp2_with (rw [hX.out])
        (try simp only [Exit.inBlock, Exit.then])
        refine bodyPost_ret (v := .tuple #[.agg #[.string x.s, .int .i64 x.t, .int .i64 x.d, .slice p6 x.n c6], .slice p5 (k + (n - (k + 1))) c5, .bool true]) ?_ rfl ⟨⟨x.s, x.t, x.d, p6, x.n, c6, x.xs⟩, p5, c5, A ++ B, ?_, ?_, ?_, eAB, kX⟩
        · simp only [results, Try.f12]
          go_simp
        · rw [hTS, ← hnm]
        · have e2 := hsz.out
          rw [← hnm, e2]
          refine ⟨oX.wide (by omega) (Nat.le_refl _), rX.wide (by omega) (Nat.le_refl _), hap.1, hap.2⟩
        · rw [hTX.out]; rfl
      · have hmore : Hid (∀ y ∈ its.take (k + 1), y.s ≠ s) := fun y hy => by
          rw [take_getD (by omega), hx] at hy
          rcases List.mem_append.1 hy with e | e
          · exact hno.out y e
          · simp at e; rw [e]; exact hxs
        have e1 := str_ne hxs
        clear hno hc hx hxm
        go_wp2_with (fail)
        go_roundw
        case rel => exact ⟨k + 1, by omega, by go_num, hmore, trivial⟩
        case measure => simp [intOf]; omega
    · have hkn : k = n := by omega
      subst hkn
      have hF : takeF s its = none := takeF_none (fun x hx => hno.out x (by rw [show its.take k = its by rw [← hl, List.take_length]]; exact hx))
      have hTX : Hid (takeX s its = default) := by rw [Hid, takeX, hF]; rfl
      have hTL : Hid (takeL s its = its) := by rw [Hid, takeL, hF]; rfl
      have hTS : (takeF s its).isSome = false := by rw [hF]; rfl
      have CQ := l13Queue_own p k c its wr hn hl (itemsIn_on h b1) (fun y hy => (li y hy).on b1) fit
      have hbz : ∀ X, (Instr.build 26 #[]).run Try.prog X = .ok (.agg #[.string { data := #[] }, .int .i64 0, .int .i64 0, .slice none 0 0]) X := fun X => by kernel_rfl
      clear hno hF h li fit
      go_wp2_with (fail)
      refine CQ.mono ?_
      rintro e w6 ⟨g6, c6, B, rfl, o6, eB, b6⟩
      have z6 := b6.size
      have k6 : Below w.heap.size w w6 := below_on b1 b6
      obtain ⟨X, hX, ⟨u0, y0⟩, f0, ⟨u1, y1⟩, f1, ⟨u2, y2⟩, f2, ⟨u3, y3⟩, f3, q0, q1, q2', q3, hsz, hgX⟩ := itemStore (C1.on b6) rfl { data := #[] } 0 0 none 0 0
      have oX := o6.keptLow hgX.out (by omega)
      have kX : Below w.heap.size w X := k6.grown hgX.out k6.size (fun j hj => by cases hj; exact hwR)
      clear hgX o6 b6 k6 CQ
      go_wp2_with (rw [hX.out])
      (try simp only [Exit.inBlock, Exit.then])
      refine bodyPost_ret (v := .tuple #[.agg #[.string { data := #[] }, .int .i64 0, .int .i64 0, .slice none 0 0], .slice (some ⟨g6, 0, none⟩) k c6, .bool false]) ?_ rfl ⟨default, some ⟨g6, 0, none⟩, c6, B, ?_, ?_, ?_, ?_, kX⟩
      · simp only [results, Try.f12]
        go_simp
      · rw [hTS, hTL.out, hl]; rfl
      · have e2 := hsz.out
        rw [hTL.out, hl, e2]
        exact ⟨oX.wide (by omega) (Nat.le_refl _), ⟨World.ownsRow_nil _ _ _ _, fun k hk => by cases hk⟩, .inl rfl, fun y _ => by cases y.slice.ownBlock <;> simp [ItA.slice, default, Value.ownBlock]⟩
      · rw [Hid, hTX.out]
      · rw [Hid, hTL.out, eB.out]

end Go.Proofs.Ytkdbcplcpcdnbaa

namespace Go.Proofs.Ytkdbcplcpcdnbaa
open Go.RowKit
set_option maxRecDepth 100000

/-- Of the blocks that were there only some from lo to below hi have turned. -/
structure Within (lo hi : Nat) (w w' : World) : Prop where
  os : w'.os = w.os
  tape : w'.tape = w.tape
  output : w'.output = w.output
  size : w.heap.size ≤ w'.heap.size
  block : ∀ k, k < w.heap.size → (k < lo ∨ hi ≤ k) → w'.heap[k]? = w.heap[k]?
theorem Within.refl (lo hi : Nat) (w : World) : Within lo hi w w := ⟨rfl, rfl, rfl, Nat.le_refl _, fun _ _ _ => rfl⟩
theorem Within.below {lo hi : Nat} {w w1 w2 : World} (h : Within lo hi w w1) (b : Below w1.heap.size w1 w2) : Within lo hi w w2 :=
  ⟨b.os.trans h.os, b.tape.trans h.tape, b.output.trans h.output, Nat.le_trans h.size b.size, fun k hk hr => (b.block k (Nat.lt_of_lt_of_le hk h.size)).trans (h.block k hk hr)⟩
theorem Within.grown {lo hi : Nat} {w w1 w2 : World} {r : Option Nat} (h : Within lo hi w w1) (g : w1.grownBy w2 r) (hr : ∀ k, r = some k → lo ≤ k ∧ k < hi) : Within lo hi w w2 :=
  ⟨g.os.trans h.os, g.tape.trans h.tape, g.output.trans h.output, Nat.le_trans h.size g.size, fun k hk hh => (g.block k (Nat.lt_of_lt_of_le hk h.size) (fun e => by have := hr k e.symm; omega)).trans (h.block k hk hh)⟩
theorem Within.low {a lo hi : Nat} {w0 w w' : World} (h : Within lo hi w w') (b : Below a w0 w) (ha : a ≤ lo) (hw : a ≤ w.heap.size) : Below a w0 w' :=
  b.trans ⟨h.os, h.tape, h.output, h.size, fun k hk => h.block k (by omega) (.inl (by omega))⟩
theorem owns_same {w w' : World} {base e size n : Nat} {v : Value} {xs : List Value} (h : w.ownsRow base e size v n xs) (hb : ∀ k, v.ownBlock = some k → w'.heap[k]? = w.heap[k]?) : w'.ownsRow base e size v n xs := by
  refine ⟨h.1, ?_⟩
  rcases h.2 with hn | ⟨g, cap, cur, rfl, hbg, hgg, rest⟩
  · exact .inl hn
  · refine .inr ⟨g, cap, cur, rfl, hbg, ?_, rest⟩
    rw [hb g rfl]
    exact hgg
theorem Own.past13 {e lo hi a b n : Nat} {w w' : World} {v : Value} {xs : List Int} (h : Own e w a b v n xs) (hw : Within lo hi w w') (hd : b ≤ lo ∨ hi ≤ a) : Own e w' a b v n xs :=
  ⟨owns_same h.1 (fun k hk => hw.block k (h.1.lt k hk).2 (by have := h.2 k hk; have := (h.1.lt k hk).1; omega)), h.2⟩
theorem OwnItems.past13 {lo hi a b n : Nat} {w w' : World} {v : Value} {its : List ItA} (h : OwnItems w a b v n its) (hw : Within lo hi w w') (hd : b ≤ lo ∨ hi ≤ a) : OwnItems w' a b v n its :=
  ⟨h.len, owns_same h.row (fun k hk => hw.block k (h.row.lt k hk).2 (by have := h.top k hk; have := (h.row.lt k hk).1; omega)), h.top, fun x hx => (h.bytes x hx).past13 hw hd, h.apart, h.pair⟩

/-- The marks that are laid into items from k on. -/
def mkI : Nat → List ItA → List ItA
  | _, [] => []
  | k, x :: r => ⟨mtS k, ((k + 1 : Nat) : Int), ((k + 2 : Nat) : Int), x.p, x.n, x.c, marks ((k + 3 : Nat) : Int) x.n⟩ :: mkI (k + 3 + x.n) r
def mkK : Nat → List ItA → Nat
  | k, [] => k
  | k, x :: r => mkK (k + 3 + x.n) r
theorem mkK_append (k : Nat) (a b : List ItA) : mkK k (a ++ b) = mkK (mkK k a) b := by
  induction a generalizing k with
  | nil => rfl
  | cons x r ih => exact ih _
theorem mkI_append (k : Nat) (a b : List ItA) : mkI k (a ++ b) = mkI k a ++ mkI (mkK k a) b := by
  induction a generalizing k with
  | nil => rfl
  | cons x r ih => simp only [List.cons_append, mkI, mkK]; rw [ih]
theorem mkI_length (k : Nat) (a : List ItA) : (mkI k a).length = a.length := by
  induction a generalizing k with
  | nil => rfl
  | cons x r ih => simp [mkI, ih]
theorem mkK_le (k : Nat) (a : List ItA) : mkK k a = k + 3 * a.length + (a.map ItA.n).sum := by
  induction a generalizing k with
  | nil => simp [mkK]
  | cons x r ih => simp [mkK, ih]; omega
theorem mkK_take (k : Nat) (a : List ItA) (j : Nat) : mkK k (a.take j) ≤ mkK k a := by
  have e := congrArg (mkK k) (List.take_append_drop j a)
  rw [mkK_append, mkK_le (mkK k (a.take j))] at e
  omega

/-- Items that lie in the same slices, whatever the row tells beside. -/
theorem OwnItems.relabel {w w' : World} {lo hi n g : Nat} {v : Value} {its its' : List ItA} (h : OwnItems w lo hi v n its) (e : its'.map (fun x => (x.slice, x.n, x.xs)) = its.map (fun x => (x.slice, x.n, x.xs))) (hrow : w'.ownsRow lo 26 4 v n (flatI its')) (hg : w.grownBy w' (some g)) (hv : v.ownBlock = some g) : OwnItems w' lo hi v n its' := by
  have hl : its'.length = its.length := by have := congrArg List.length e; simpa using this
  have each : ∀ x ∈ its', ∃ y ∈ its, x.slice = y.slice ∧ x.n = y.n ∧ x.xs = y.xs := fun x hx => by
    have : (x.slice, x.n, x.xs) ∈ its.map (fun x => (x.slice, x.n, x.xs)) := by rw [← e]; exact List.mem_map.2 ⟨x, hx, rfl⟩
    obtain ⟨y, hy, h2⟩ := List.mem_map.1 this
    simp only [Prod.mk.injEq] at h2
    exact ⟨y, hy, h2.1.symm, h2.2.1.symm, h2.2.2.symm⟩
  have hmap : its'.map ItA.slice = its.map ItA.slice := by
    have := congrArg (List.map Prod.fst) e
    rw [List.map_map, List.map_map] at this
    exact this
  refine ⟨by rw [hl, h.len], hrow, h.top, fun x hx => ?_, fun x hx => ?_, ?_⟩
  · obtain ⟨y, hy, e1, e2, e3⟩ := each x hx
    rw [e1, e2, e3]
    refine ⟨(h.bytes y hy).1.kept hg ?_, (h.bytes y hy).2⟩
    rw [← hv]; exact h.apart y hy
  · obtain ⟨y, hy, e1, _, _⟩ := each x hx
    rw [e1]; exact h.apart y hy
  · have p1 : (its.map ItA.slice).Pairwise (fun a b => a.ownBlock = none ∨ a.ownBlock ≠ b.ownBlock) := List.pairwise_map.2 h.pair
    rw [← hmap] at p1
    exact List.pairwise_map.1 p1

/-- The bytes of one item told anew. -/
theorem OwnItems.rebyte {w w' : World} {lo hi n : Nat} {v : Value} {a b : List ItA} {x : ItA} {ys : List Int} (h : OwnItems w lo hi v n (a ++ x :: b)) (hx : Own 5 w' lo hi x.slice x.n ys) (hg : w.grownBy w' x.slice.ownBlock) : OwnItems w' lo hi v n (a ++ { x with xs := ys } :: b) := by
  have hf : flatI (a ++ { x with xs := ys } :: b) = flatI (a ++ x :: b) := by rw [flatI_append, flatI_append, flatI_cons, flatI_cons]; rfl
  have hap := h.apart x (by simp)
  have p := List.pairwise_append.1 h.pair
  have p2 := List.pairwise_cons.1 p.2.1
  have other : ∀ y, y ∈ a ∨ y ∈ b → y.slice.ownBlock = none ∨ y.slice.ownBlock ≠ x.slice.ownBlock := fun y hy => by
    rcases hy with hy | hy
    · exact p.2.2 y hy x (by simp)
    · rcases p2.1 y hy with e | e
      · rw [e]; cases y.slice.ownBlock <;> simp
      · exact .inr (Ne.symm e)
  have hv : v.ownBlock = none ∨ v.ownBlock ≠ x.slice.ownBlock := by
    rcases hap with e | e
    · rw [e]; cases v.ownBlock <;> simp
    · exact .inr (Ne.symm e)
  refine ⟨by have := h.len; simpa using this, by rw [hf]; exact h.row.kept hg hv, h.top, fun y hy => ?_, fun y hy => ?_, ?_⟩
  · rcases List.mem_append.1 hy with hy | hy
    · exact ⟨(h.bytes y (by simp [hy])).1.kept hg (other y (.inl hy)), (h.bytes y (by simp [hy])).2⟩
    · rcases List.mem_cons.1 hy with rfl | hy
      · exact hx
      · exact ⟨(h.bytes y (by simp [hy])).1.kept hg (other y (.inr hy)), (h.bytes y (by simp [hy])).2⟩
  · rcases List.mem_append.1 hy with hy | hy
    · exact h.apart y (by simp [hy])
    · rcases List.mem_cons.1 hy with rfl | hy
      · exact hap
      · exact h.apart y (by simp [hy])
  · rw [List.pairwise_append, List.pairwise_cons]
    exact ⟨p.1, ⟨p2.1, p2.2⟩, fun y hy z hz => by
      rcases List.mem_cons.1 hz with rfl | hz
      · exact p.2.2 y hy x (by simp)
      · exact p.2.2 y hy z (by simp [hz])⟩

theorem flatI_set3 (A B : List ItA) (x y : ItA) (h : x.slice = y.slice) :
    (((flatI (A ++ x :: B)).set (A.length * 4) (.string y.s)).set (A.length * 4 + 1) (.int .i64 y.t)).set (A.length * 4 + 2) (.int .i64 y.d) = flatI (A ++ y :: B) := by
  have e : ∀ (l m : List Value) (k : Nat) (v : Value), (l ++ m).set (l.length + k) v = l ++ m.set k v := fun l m k v => by rw [List.set_append_right _ _ (by omega)]; congr 2; omega
  have hl : (flatI A).length = A.length * 4 := flatI_length A
  have e0 : ∀ (m : List Value) (v : Value), (flatI A ++ m).set (A.length * 4) v = flatI A ++ m.set 0 v := fun m v => by rw [← hl]; exact e _ _ 0 _
  have e1 : ∀ (m : List Value) (v : Value), (flatI A ++ m).set (A.length * 4 + 1) v = flatI A ++ m.set 1 v := fun m v => by rw [← hl]; exact e _ _ 1 _
  have e2 : ∀ (m : List Value) (v : Value), (flatI A ++ m).set (A.length * 4 + 2) v = flatI A ++ m.set 2 v := fun m v => by rw [← hl]; exact e _ _ 2 _
  rw [flatI_append, flatI_append, flatI_cons, flatI_cons, e0, e1, e2]
  have hv : Value.slice x.p x.n x.c = Value.slice y.p y.n y.c := h
  simp [ItA.vals, hv]

theorem mkI_at (k : Nat) (its : List ItA) (j : Nat) (h : j < its.length) : (mkI k its).getD j default = ⟨mtS (mkK k (its.take j)), ((mkK k (its.take j) + 1 : Nat) : Int), ((mkK k (its.take j) + 2 : Nat) : Int), (its.getD j default).p, (its.getD j default).n, (its.getD j default).c, marks ((mkK k (its.take j) + 3 : Nat) : Int) (its.getD j default).n⟩ := by
  have e : its = its.take j ++ its.getD j default :: its.drop (j + 1) := by
    conv => lhs; rw [← List.take_append_drop j its, List.drop_eq_getElem_cons h]
    rw [List.getD_eq_getElem?_getD, List.getElem?_eq_getElem h]; rfl
  have hl : (mkI k (its.take j)).length = j := by rw [mkI_length, List.length_take]; omega
  conv => lhs; rw [e, mkI_append]
  rw [List.getD_eq_getElem?_getD, List.getElem?_append_right (by omega), hl, Nat.sub_self]
  rfl

end Go.Proofs.Ytkdbcplcpcdnbaa

namespace Go.Proofs.Ytkdbcplcpcdnbaa
open Go.RowKit
set_option maxRecDepth 100000

abbrev Con := ByteArray × Int × Int × List Int
def conN (c : Con) : Nat := c.2.2.2.length
theorem sub_sum {l m : List Nat} (h : l.Sublist m) : l.sum ≤ m.sum := by
  induction h with
  | slnil => exact Nat.le_refl _
  | cons a _ ih => rw [List.sum_cons]; omega
  | cons_cons a _ ih => rw [List.sum_cons, List.sum_cons]; omega
theorem mem_sum {l : List Con} {c : Con} (h : c ∈ l) : conN c ≤ (l.map conN).sum := by
  induction l with
  | nil => simp at h
  | cons a r ih =>
    rw [List.map_cons, List.sum_cons]
    rcases List.mem_cons.1 h with rfl | h
    · omega
    · have := ih h; omega
theorem con_sum {w : World} {its : List ItA} (ok : ∀ x ∈ its, x.Ok w) (h : totI its ≤ 1048576) : ((its.map ItA.con).map conN).sum ≤ 1048576 := by
  refine Nat.le_trans ?_ h
  clear h
  induction its with
  | nil => simp
  | cons x r ih =>
    have e : totI (x :: r) = x.s.size + x.n + totI r := by simp [totI]
    have h1 : conN x.con = x.n := (ok x (by simp)).len
    have := ih (fun y hy => ok y (by simp [hy]))
    rw [List.map_cons, List.map_cons, List.sum_cons, e, h1]
    omega
theorem con_tot {w : World} {its : List ItA} (ok : ∀ x ∈ its, x.Ok w) : ((its.map ItA.con).map conN).sum ≤ totI its := by
  induction its with
  | nil => simp
  | cons x r ih =>
    have e : totI (x :: r) = x.s.size + x.n + totI r := by simp [totI]
    have h1 : conN x.con = x.n := (ok x (by simp)).len
    have := ih (fun y hy => ok y (by simp [hy]))
    rw [List.map_cons, List.map_cons, List.sum_cons, e, h1]
    omega
theorem one_small {e : Nat} {w : World} {lo hi : Nat} {x : ItA} {XC : Con} (h : Own e w lo hi x.slice x.n x.xs) (hx : Hid (x.con = XC)) (hX : conN XC ≤ 1048576) : x.n ≤ 1048576 := by
  have h1 := h.len
  have h2 : conN x.con = conN XC := congrArg conN hx.out
  have h3 : conN x.con = x.xs.length := rfl
  omega
theorem list_small {its : List ItA} {LC : List Con} (e : Hid (its.map ItA.con = LC)) (h : (LC.map conN).sum ≤ 1048576) : ∀ x ∈ its, x.xs.length ≤ 1048576 := fun x hx => by
  have h1 : x.con ∈ LC := by rw [← e.out]; exact List.mem_map.2 ⟨x, hx, rfl⟩
  have h2 := mem_sum h1
  have h3 : conN x.con = x.xs.length := rfl
  omega
theorem mk_small {w : World} {lo hi : Nat} {v : Value} {n : Nat} {its : List ItA} {LC : List Con} {k : Nat} (h : OwnItems w lo hi v n its) (e : Hid (its.map ItA.con = LC)) (hs : (LC.map conN).sum ≤ 1048576) (hn : n ≤ 1048577) (hk : k ≤ 1048577) : mkK k its ≤ 100000000 := by
  have e2 : its.map ItA.n = LC.map conN := by
    rw [← e.out, List.map_map]
    exact List.map_congr_left fun x hx => ((h.bytes x hx).len).symm
  rw [mkK_le, h.len, e2]
  omega
theorem con_four {x y : ItA} {C : Con} (hx : Hid (x.con = C)) (hy : Hid (y.con = C)) : x.s = y.s ∧ x.t = y.t ∧ x.d = y.d ∧ x.xs = y.xs := by
  have e := hx.out.trans hy.out.symm
  simp only [ItA.con, Prod.mk.injEq] at e
  exact e
theorem OwnItems.cap {w : World} {lo hi : Nat} {p : Option Addr} {n c : Nat} {its : List ItA} (h : OwnItems w lo hi (.slice p n c) n its) : n ≤ c := by
  rcases h.row.2 with ⟨hv, hn⟩ | ⟨g, cap, cur, hv, _, _, hc, _⟩
  · omega
  · simp only [Value.slice.injEq] at hv
    omega
theorem Cells.past13 {lo hi g : Nat} {w w' : World} {A : Array Value} (h : Cells w g A) (hw : Within lo hi w w') (hd : g < lo ∨ hi ≤ g) : Cells w' g A := by
  have e := hw.block g h.1 hd
  exact ⟨Nat.lt_of_lt_of_le h.1 hw.size, fun i => ⟨(World.cell?_of_block (w := w) e).trans (h.2 i).1, (World.frozen?_of_block (w := w) e).trans (h.2 i).2⟩⟩
theorem fits {w : World} {lo hi : Nat} {v : Value} {n : Nat} {its : List ItA} {LC : List Con} (h : OwnItems w lo hi v n its) (e : Hid (its.map ItA.con = LC)) (hs : (LC.map conN).sum ≤ 1048576) : ∀ x ∈ its, x.n ≤ 1048576 := fun x hx => by
  have h1 := list_small e hs x hx
  have h2 := (h.bytes x hx).len
  omega
theorem mkI_bytes {w : World} {lo hi : Nat} {v : Value} {n : Nat} {its : List ItA} (h : OwnItems w lo hi v n its) : ∀ x ∈ its, BytesIn w x.p x.n x.xs := fun x hx => by
  have hb : Own 5 w lo hi (.slice x.p x.n x.c) x.n x.xs := h.bytes x hx
  exact hb.bytes

end Go.Proofs.Ytkdbcplcpcdnbaa

namespace Go.Proofs.Ytkdbcplcpcdnbaa
open Go.Shelf
set_option maxRecDepth 1000000

def sortP_ren : Go.Shelf.Ren := ⟨fun | 6 => 79 | 15 => 95 | 14 => 94 | 28 => 106 | 29 => 107 | 20 => 98 | 21 => 99 | 22 => 100 | 23 => 101 | 24 => 102 | 25 => 103 | 26 => 104 | 27 => 105 | 46 => 108 | 47 => 109 | 48 => 110 | 49 => 111 | 50 => 112 | 57 => 113 | n => n, fun | 22 => 76 | 24 => 102 | 25 => 107 | 3 => 3 | 39 => 118 | 0 => 0 | 53 => 135 | 55 => 137 | 4 => 4 | 46 => 128 | 45 => 127 | 50 => 132 | 5 => 5 | 9 => 9 | 66 => 138 | 70 => 142 | 76 => 144 | 77 => 145 | n => n, fun | n => n⟩
theorem sortP : Go.Proofs.SlLaysF0.n6 Try.prog sortP_ren := {
  mixed := by kernel_rfl
  f6 := ⟨Try.f79.name, by decide, Try.func79.trans (congrArg some (by kernel_rfl))⟩
  f14 := ⟨Try.f94.name, by decide, Try.func94.trans (congrArg some (by kernel_rfl))⟩
  f15 := Try.func95.trans (congrArg some (by kernel_rfl))
  f20 := ⟨Try.f98.name, by decide, Try.func98.trans (congrArg some (by kernel_rfl))⟩
  f21 := ⟨Try.f99.name, by decide, Try.func99.trans (congrArg some (by kernel_rfl))⟩
  f22 := ⟨Try.f100.name, by decide, Try.func100.trans (congrArg some (by kernel_rfl))⟩
  f23 := ⟨Try.f101.name, by decide, Try.func101.trans (congrArg some (by kernel_rfl))⟩
  f24 := ⟨Try.f102.name, by decide, Try.func102.trans (congrArg some (by kernel_rfl))⟩
  f25 := ⟨Try.f103.name, by decide, Try.func103.trans (congrArg some (by kernel_rfl))⟩
  f26 := ⟨Try.f104.name, by decide, Try.func104.trans (congrArg some (by kernel_rfl))⟩
  f27 := ⟨Try.f105.name, by decide, Try.func105.trans (congrArg some (by kernel_rfl))⟩
  f28 := Try.func106.trans (congrArg some (by kernel_rfl))
  f29 := Try.func107.trans (congrArg some (by kernel_rfl))
  f46 := ⟨Try.f108.name, by decide, Try.func108.trans (congrArg some (by kernel_rfl))⟩
  f47 := Try.func109.trans (congrArg some (by kernel_rfl))
  f48 := Try.func110.trans (congrArg some (by kernel_rfl))
  f49 := ⟨Try.f111.name, by decide, Try.func111.trans (congrArg some (by kernel_rfl))⟩
  f50 := ⟨Try.f112.name, by decide, Try.func112.trans (congrArg some (by kernel_rfl))⟩
  f57 := ⟨Try.f113.name, by decide, Try.func113.trans (congrArg some (by kernel_rfl))⟩
  t0 := Try.underlying0
  a0 := Try.isAgg0
  z0 := Try.sizeOf0
  v0 := Try.zeroValue0
  t3 := Try.underlying3
  a3 := Try.isAgg3
  z3 := Try.sizeOf3
  v3 := Try.zeroValue3
  t4 := Try.underlying4
  a4 := Try.isAgg4
  z4 := Try.sizeOf4
  v4 := Try.zeroValue4
  t5 := Try.underlying5
  a5 := Try.isAgg5
  z5 := Try.sizeOf5
  v5 := Try.zeroValue5
  t9 := Try.underlying9
  a9 := Try.isAgg9
  z9 := Try.sizeOf9
  v9 := Try.zeroValue9
  t22 := Try.underlying76
  a22 := Try.isAgg76
  z22 := Try.sizeOf76
  v22 := Try.zeroValue76
  t25 := Try.underlying107
  a25 := Try.isAgg107
  z25 := Try.sizeOf107
  v25 := Try.zeroValue107
  t39 := Try.underlying118
  a39 := Try.isAgg118
  z39 := Try.sizeOf118
  v39 := Try.zeroValue118
  t45 := Try.underlying127
  a45 := Try.isAgg127
  z45 := Try.sizeOf127
  v45 := Try.zeroValue127
  t46 := Try.underlying128
  a46 := Try.isAgg128
  z46 := Try.sizeOf128
  v46 := Try.zeroValue128
  t50 := Try.underlying132
  a50 := Try.isAgg132
  z50 := Try.sizeOf132
  v50 := Try.zeroValue132
  t53 := Try.underlying135
  a53 := Try.isAgg135
  z53 := Try.sizeOf135
  v53 := Try.zeroValue135
  t55 := Try.underlying137
  a55 := Try.isAgg137
  z55 := Try.sizeOf137
  v55 := Try.zeroValue137
  t66 := Try.underlying138
  a66 := Try.isAgg138
  z66 := Try.sizeOf138
  v66 := Try.zeroValue138
  t70 := Try.underlying142
  a70 := Try.isAgg142
  z70 := Try.sizeOf142
  v70 := Try.zeroValue142
  t76 := Try.underlying144
  a76 := Try.isAgg144
  z76 := Try.sizeOf144
  v76 := Try.zeroValue144
  t77 := Try.underlying145
  a77 := Try.isAgg145
  z77 := Try.sizeOf145
  v77 := Try.zeroValue145 }

end Go.Proofs.Ytkdbcplcpcdnbaa

namespace Go.Proofs.Ytkdbcplcpcdnbaa
open Go.RowKit
set_option maxRecDepth 100000

/-- The placed items l lie in a slice of n elements at p, with room for c. -/
def PlIn (w : World) (p : Option Addr) (n c : Nat) (l : List PIt) : Prop :=
  n ≤ c ∧ c ≤ 9223372036854775807 ∧ (0 < n → ∃ b o, p = some ⟨b, o, none⟩ ∧ ∀ i j v, i < n → (l.getD i default).vals[j]? = some v → w.cell? ⟨b, o + i * 5 + j, none⟩ = some v)
theorem plIn_on {w w' : World} {p : Option Addr} {n c : Nat} {l : List PIt} (h : PlIn w p n c l) (hb : Below w.heap.size w w') : PlIn w' p n c l := by
  refine ⟨h.1, h.2.1, fun hn => ?_⟩
  obtain ⟨b, o, rfl, hc⟩ := h.2.2 hn
  refine ⟨b, o, rfl, fun i j v hi hv => ?_⟩
  have hlt : b < w.heap.size := World.block_lt_of_cell? w ⟨b, o + i * 5 + j, none⟩ (hc i j v hi hv)
  rw [hb.cell (p := ⟨b, o + i * 5 + j, none⟩) hlt]
  exact hc i j v hi hv
theorem plIn_own {w : World} {lo e : Nat} {p : Option Addr} {n c : Nat} {l : List PIt} (h : w.ownsRow lo e 5 (.slice p n c) n (flatP l)) (hl : l.length = n) : PlIn w p n c l := by
  rcases h.2 with ⟨hv, h0⟩ | ⟨g, cap, cur, hv, _, _, hnc, hcm, _⟩
  · simp only [Value.slice.injEq] at hv
    obtain ⟨rfl, rfl, rfl⟩ := hv
    exact ⟨by omega, by omega, fun hn => by omega⟩
  · simp only [Value.slice.injEq] at hv
    obtain ⟨rfl, _, rfl⟩ := hv
    refine ⟨hnc, by unfold maxLen at hcm; omega, fun hn => ⟨g, 0, rfl, fun i j v hi hv => ?_⟩⟩
    have hj : j < 5 := (List.getElem?_eq_some_iff.1 hv).1
    rw [Nat.zero_add, h.cellAt (i * 5 + j) (by omega), flatP_at l i j hj (by omega)]
    exact hv
theorem PlIn.at {w : World} {b o n : Nat} {l : List PIt} (h : ∀ i j v, i < n → (l.getD i default).vals[j]? = some v → w.cell? ⟨b, o + i * 5 + j, none⟩ = some v) {k : Nat} (hk : k < n) {z : PIt} (hz : l.getD k default = z) :
    w.cell? ⟨b, o + k * 5, none⟩ = some (.int .i64 z.k) ∧ w.cell? ⟨b, o + k * 5 + 1, none⟩ = some (.string z.x.s) ∧ w.cell? ⟨b, o + k * 5 + 2, none⟩ = some (.int .i64 z.x.t) ∧ w.cell? ⟨b, o + k * 5 + 3, none⟩ = some (.int .i64 z.x.d) ∧ w.cell? ⟨b, o + k * 5 + 4, none⟩ = some (.slice z.x.p z.x.n z.x.c) := by
  subst hz
  exact ⟨h k 0 _ hk rfl, h k 1 _ hk rfl, h k 2 _ hk rfl, h k 3 _ hk rfl, h k 4 _ hk rfl⟩

/-- Whether one of them has that topic. -/
def hasT (t : Int) (l : List PIt) : Bool := l.any (fun z => decide (z.x.t = t))
theorem hasT_step (t : Int) (l : List PIt) (k : Nat) (h : k < l.length) : hasT t (l.take (k + 1)) = (hasT t (l.take k) || decide ((l.getD k default).x.t = t)) := by
  rw [take_getD h]
  simp [hasT]

theorem rowOk1_any (k : Int) (s : ByteArray) (t d : Int) (p : Option Addr) (n c : Nat) (PB : Nat) (t0 : Int) (w : World) (h : w.cell? ⟨PB, 2, none⟩ = some (.int .i64 t0)) :
    Calls Try.prog 83 #[.agg #[.int .i64 k, .string s, .int .i64 t, .int .i64 d, .slice p n c], .pointer (some ⟨PB, 0, none⟩)] w fun e w' => e = .returned (.bool (decide (t = t0))) ∧ Below w.heap.size w w' := by
  have kA : ∀ o, Below w.heap.size w (w.alloc o) := fun o => made_below _ _ (Below.refl _ _)
  have h' : ∀ o, (w.alloc o).cell? ⟨PB, 2, none⟩ = some (.int .i64 t0) := fun o => ((kA o).cell (World.block_lt_of_cell? w _ h)).trans h
  go_enter Try.func83, Try.ntmps83
  go_wp2_with (fail)
  go_ret
  exact ⟨rfl, kA _⟩


/-- row[:i]. -/
theorem slice_row (b o m cc h : Nat) (hc : h ≤ cc) (W : World) : (Instr.slice 76 (.slice (some ⟨b, o, none⟩) m cc) none (some (.int .i64 (h : Int))) none).run Try.prog W = .ok (.slice (some ⟨b, o, none⟩) h cc) W := by
  have ht' : Try.prog.underlying 76 = some (.slice (Try.prog.elem 76)) := by simp [Program.elem, Try.underlying76]
  have he : Try.prog.elem 76 = 102 := by simp [Program.elem, Try.underlying76]
  rw [run_slice_h W 76 _ _ _ ht' .i64 h (by omega) (by omega), he]
  simp [sliced, Addr.add]

set_option maxHeartbeats 4000000 in
theorem indexFunc_any (p : Option Addr) (n c : Nat) (l : List PIt) (PB : Nat) (t0 : Int) (w : World) (hn : n ≤ 1048577) (hl : n ≤ l.length) (h : PlIn w p n c l) (hp : w.cell? ⟨PB, 2, none⟩ = some (.int .i64 t0)) :
    Calls Try.prog 93 #[.slice p n c, .func (.func 83) #[] #[.pointer (some ⟨PB, 0, none⟩)]] w fun e w' => ∃ r : Int, e = .returned (.int .i64 r) ∧ Hid (decide (0 ≤ r) = hasT t0 (l.take n)) ∧ Below w.heap.size w w' := by
  go_enter Try.func93, Try.ntmps93
  go_wp2_with (fail)
  go_loopw [8] (fun i wr => ∃ k : Nat, k ≤ n ∧ i = .int .i64 k ∧ Hid (hasT t0 (l.take k) = false) ∧ Below w.heap.size w wr) (fun i _ => n - (intOf i).toNat)
  case atStart => exact ⟨0, Nat.zero_le _, rfl, rfl, Below.refl _ _⟩
  case round =>
    obtain ⟨k, hk, rfl, hno, hbel⟩ := hrel
    by_cases hlt : k < n
    · obtain ⟨b, o, rfl, hc⟩ := (plIn_on h hbel).2.2 (by omega)
      obtain ⟨z, hz⟩ : ∃ z, l.getD k default = z := ⟨_, rfl⟩
      obtain ⟨l0, l1, l2, l3, l4⟩ := PlIn.at hc hlt hz
      have hst := hasT_step t0 l k (by omega)
      rw [hno.out, hz, Bool.false_or] at hst
      have hin : Hid (z.x.t = t0 → hasT t0 (l.take n) = true) := fun e => by
        refine List.any_eq_true.2 ⟨z, ?_, by simp [e]⟩
        rw [← hz, List.getD_eq_getElem?_getD, List.getElem?_eq_getElem (show k < l.length by omega)]
        exact List.mem_take_iff_getElem.2 ⟨k, by omega, rfl⟩
      obtain ⟨pk, ⟨s, t, d, xp, xn, xc, xs⟩⟩ := z
      dsimp only at l0 l1 l2 l3 l4 hst hin
      have C := rowOk1_any pk s t d xp xn xc PB t0 wr ((hbel.cell (World.block_lt_of_cell? w _ hp)).trans hp)
      clear hc h hz hno
      by_cases e : t = t0
      · have hyes := hin.out e
        rw [decide_eq_true e] at C
        clear hst hin e
        go_wp2_with (fail)
        refine C.mono ?_
        rintro y w2 ⟨rfl, b2⟩
        have hbel2 := below_on hbel b2
        clear hbel b2 C
        go_wp2_with (fail)
        go_ret
        exact ⟨k, rfl, by rw [Hid, hyes]; exact decide_eq_true (by omega), hbel2⟩
      · rw [decide_eq_false e] at C hst
        replace hst : Hid (hasT t0 (l.take (k + 1)) = false) := hst
        clear hin e
        go_wp2_with (fail)
        refine C.mono ?_
        rintro y w2 ⟨rfl, b2⟩
        have hbel2 := below_on hbel b2
        clear hbel b2 C
        go_wp2_with (fail)
        go_roundw
        case rel => exact ⟨k + 1, by omega, by go_num, hst, hbel2⟩
        case measure => simp [intOf]; omega
    · have hkn : k = n := by omega
      subst hkn
      have hno' := hno.out
      clear hno
      go_wp2_with (fail)
      go_ret
      exact ⟨-1, rfl, by rw [Hid, hno']; rfl, hbel⟩

theorem containsFunc_any (p : Option Addr) (n c : Nat) (l : List PIt) (PB : Nat) (t0 : Int) (w : World) (hn : n ≤ 1048577) (hl : n ≤ l.length) (h : PlIn w p n c l) (hp : w.cell? ⟨PB, 2, none⟩ = some (.int .i64 t0)) :
    Calls Try.prog 84 #[.slice p n c, .func (.func 83) #[] #[.pointer (some ⟨PB, 0, none⟩)]] w fun e w' => e = .returned (.bool (hasT t0 (l.take n))) ∧ Below w.heap.size w w' := by
  have C := indexFunc_any p n c l PB t0 w hn hl h hp
  generalize hasT t0 (l.take n) = R at C ⊢
  go_enter Try.func84, Try.ntmps84
  go_wp2_with (fail)
  refine C.mono ?_
  rintro y w2 ⟨r, rfl, hr, b2⟩
  have hr' := hr.out
  clear hr C
  go_wp2_with (fail)
  go_ret
  exact ⟨rfl, b2⟩


/-- What a right row is. -/
def RwOk (r : List PIt) : Prop := r.length ≤ 4 ∧ ∀ i, i < r.length → (r.getD i default).x.t ≠ 0 → hasT (r.getD i default).x.t (r.take i) = false
noncomputable def rwB (r : List PIt) : Bool := @decide (RwOk r) (Classical.propDecidable _)
theorem rwB_true {r : List PIt} (h : RwOk r) : rwB r = true := by unfold rwB; exact @decide_eq_true _ (Classical.propDecidable _) h
theorem rwB_false {r : List PIt} (h : ¬ RwOk r) : rwB r = false := by unfold rwB; exact @decide_eq_false _ (Classical.propDecidable _) h

set_option maxHeartbeats 4000000 in
theorem rowOk_any (p : Option Addr) (n c : Nat) (l : List PIt) (w : World) (hn : n ≤ 1048577) (hl : l.length = n) (h : PlIn w p n c l) :
    Calls Try.prog 55 #[.slice p n c] w fun e w' => e = .returned (.bool (rwB l)) ∧ Below w.heap.size w w' := by
  obtain ⟨R, hR⟩ : ∃ R : Bool, R = rwB l := ⟨_, rfl⟩
  rw [← hR]
  by_cases h4 : (n : Int) ≤ 4
  · have hno : Hid (∀ i, i < n → (l.getD i default).x.t ≠ 0 → hasT (l.getD i default).x.t (l.take i) = true → R = false) := fun i hi h0 h1 => by
      rw [hR]
      exact rwB_false fun q => by have := q.2 i (by omega) h0; rw [this] at h1; cases h1
    have hall : Hid ((∀ i, i < n → (l.getD i default).x.t ≠ 0 → hasT (l.getD i default).x.t (l.take i) = false) → R = true) := fun ha => by
      rw [hR]
      exact rwB_true ⟨by omega, fun i hi => ha i (by omega)⟩
    clear hR
    go_enter Try.func55, Try.ntmps55
    go_wp2_with (fail)
    go_loopw [11] (fun i wr => ∃ k : Nat, k ≤ n ∧ i = .int .i64 k ∧ Hid (∀ j, j < k → (l.getD j default).x.t ≠ 0 → hasT (l.getD j default).x.t (l.take j) = false) ∧ Below w.heap.size w wr) (fun i _ => n - (intOf i).toNat)
    case atStart => exact ⟨0, Nat.zero_le _, rfl, fun j hj => absurd hj (Nat.not_lt_zero _), Below.refl _ _⟩
    case round =>
      obtain ⟨k, hk, rfl, hdone, hbel⟩ := hrel
      by_cases hlt : k < n
      · have hP := plIn_on h hbel
        obtain ⟨b, o, rfl, hc⟩ := hP.2.2 (by omega)
        obtain ⟨z, hz⟩ : ∃ z, l.getD k default = z := ⟨_, rfl⟩
        obtain ⟨l0, l1, l2, l3, l4⟩ := PlIn.at hc hlt hz
        have hnk := hno.out k hlt
        rw [hz] at hnk
        have hmore : Hid ((z.x.t ≠ 0 → hasT z.x.t (l.take k) = false) → ∀ j, j < k + 1 → (l.getD j default).x.t ≠ 0 → hasT (l.getD j default).x.t (l.take j) = false) := fun q j hj => by
          rcases Nat.lt_succ_iff_lt_or_eq.1 hj with e | e
          · exact hdone.out j e
          · subst e; rw [hz]; exact q
        obtain ⟨pk, ⟨s, t, d, xp, xn, xc, xs⟩⟩ := z
        dsimp only at l0 l1 l2 l3 l4 hnk hmore
        obtain ⟨w3, hw3⟩ : ∃ w3, w3 = wr.alloc (.cells #[.int .i64 pk, .string s, .int .i64 t, .int .i64 d, .slice xp xn xc] 102) := ⟨_, rfl⟩
        have b3 : Below wr.heap.size wr w3 := by rw [hw3]; exact made_below _ _ (Below.refl _ _)
        have C3 : Cells w3 wr.heap.size #[.int .i64 pk, .string s, .int .i64 t, .int .i64 d, .slice xp xn xc] := by rw [hw3]; exact Cells.made _ _ _
        have m2 : w3.cell? ⟨wr.heap.size, 2, none⟩ = some (.int .i64 t) := (C3.2 2).1
        have hb3 := below_on hbel b3
        have hsl := slice_row b o n c k (by have := h.1; omega) w3
        have hP3 := plIn_on hP b3
        have hPk : PlIn w3 (some ⟨b, o, none⟩) k c l := ⟨by have := hP3.1; omega, hP3.2.1, fun hk0 => by
          obtain ⟨b', o', e, hc'⟩ := hP3.2.2 (by omega)
          exact ⟨b', o', e, fun i j v hi hv => hc' i j v (by omega) hv⟩⟩
        have CC := containsFunc_any (some ⟨b, o, none⟩) k c l wr.heap.size t w3 (by omega) (by omega) hPk m2
        replace hw3 : Hid (wr.alloc (.cells #[.int .i64 pk, .string s, .int .i64 t, .int .i64 d, .slice xp xn xc] 102) = w3) := hw3.symm
        clear hc hP hP3 hPk h hz C3 b3 hbel hdone hno hall
        by_cases e0 : t = 0
        · subst e0
          replace hmore : Hid _ := hmore.out (fun q => absurd rfl q)
          clear hnk CC
          go_wp2_with (rw [hw3.out])
          go_roundw
          case rel => exact ⟨k + 1, by omega, by go_num, hmore, hb3⟩
          case measure => simp [intOf]; omega
        · have e0' : (t != 0) = true := by simp [e0]
          cases hh : hasT t (l.take k)
          · rw [hh] at CC
            replace hmore : Hid _ := hmore.out (fun _ => hh)
            clear hnk hh e0
            go_wp2_with (rw [hw3.out])
            refine CC.mono ?_
            rintro y w4 ⟨rfl, b4⟩
            have hb4 := below_on hb3 b4
            clear CC hb3 b4 hsl
            go_wp2_with (fail)
            go_roundw
            case rel => exact ⟨k + 1, by omega, by go_num, hmore, hb4⟩
            case measure => simp [intOf]; omega
          · rw [hh] at CC
            have hr := hnk e0 hh
            subst hr
            clear hnk hh e0 hmore
            go_wp2_with (rw [hw3.out])
            refine CC.mono ?_
            rintro y w4 ⟨rfl, b4⟩
            have hb4 := below_on hb3 b4
            clear CC hb3 b4 hsl
            go_wp2_with (fail)
            go_ret
            exact ⟨rfl, hb4⟩
      · have hkn : k = n := by omega
        subst hkn
        have hr := hall.out hdone
        subst hr
        clear hno hall hdone
        go_wp2_with (fail)
        go_ret
        exact ⟨rfl, hbel⟩
  · have hr : R = false := by rw [hR]; exact rwB_false fun q => h4 (by have := q.1; omega)
    subst hr
    clear hR
    go_enter Try.func55, Try.ntmps55
    go_wp2_with (fail)
    go_ret
    exact ⟨rfl, Below.refl _ _⟩

end Go.Proofs.Ytkdbcplcpcdnbaa
