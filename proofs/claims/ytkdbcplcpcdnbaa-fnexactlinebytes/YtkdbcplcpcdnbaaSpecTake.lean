/-
  The first item of a route, and the others, as the specification takes it. Conditions: items that lie there, as many as a law hands over.
-/
import Derived.Test.YtkdbcplcpcdnbaaSpecItems
import Derived.Test.YtkdbcplcpcdnbaaSpecOf
import Derived.Maps.AppendAt
namespace Go.Proofs.Ytkdbcplcpcdnbaa
open Go.RowKit
set_option maxRecDepth 100000

/-- The first one of a route, the others, and whether there is one. -/
def takeF (s : ByteArray) : List ItA → Option (ItA × List ItA)
  | [] => none
  | x :: r => if x.s = s then some (x, r) else (takeF s r).map fun z => (z.1, x :: z.2)
def takeX (s : ByteArray) (its : List ItA) : ItA := ((takeF s its).map Prod.fst).getD default
def takeL (s : ByteArray) (its : List ItA) : List ItA := ((takeF s its).map Prod.snd).getD its
theorem takeF_none {s : ByteArray} : ∀ {its : List ItA}, (∀ x ∈ its, x.s ≠ s) → takeF s its = none
  | [], _ => rfl
  | x :: r, h => by simp [takeF, h x (by simp), takeF_none (its := r) (fun y hy => h y (by simp [hy]))]
theorem takeF_some {s : ByteArray} : ∀ {its : List ItA} {k : Nat}, (∀ x ∈ its.take k, x.s ≠ s) → k < its.length → (its.getD k default).s = s → takeF s its = some (its.getD k default, its.take k ++ its.drop (k + 1))
  | [], k, _, h, _ => by simp at h
  | x :: r, 0, _, _, h => by simp at h; simp [takeF, h]
  | x :: r, k + 1, h1, h2, h3 => by
    have hx : x.s ≠ s := h1 x (by simp)
    have ih := takeF_some (its := r) (k := k) (fun y hy => h1 y (by simp [hy])) (by simpa using h2) (by simpa using h3)
    simp [takeF, hx, ih]

/-- An item and a list of items, each in memory of its own. -/
structure Taken (w : World) (lo hi : Nat) (x : ItA) (v : Value) (n : Nat) (its : List ItA) : Prop where
  list : OwnItems w lo hi v n its
  one : Own 5 w lo hi x.slice x.n x.xs
  off : x.slice.ownBlock = none ∨ x.slice.ownBlock ≠ v.ownBlock
  apart : ∀ y ∈ its, y.slice.ownBlock = none ∨ y.slice.ownBlock ≠ x.slice.ownBlock
theorem Taken.on {w w' : World} {lo hi : Nat} {x : ItA} {v : Value} {n : Nat} {its : List ItA} (h : Taken w lo hi x v n its) (b : Below w.heap.size w w') : Taken w' lo hi x v n its := ⟨h.list.on b, h.one.on b, h.off, h.apart⟩

theorem slice_items (b o m cc h : Nat) (hc : h ≤ cc) (W : World) : (Instr.slice 24 (.slice (some ⟨b, o, none⟩) m cc) none (some (.int .i64 (h : Int))) none).run Try.prog W = .ok (.slice (some ⟨b, o, none⟩) h cc) W := by
  have ht' : Try.prog.underlying 24 = some (.slice (Try.prog.elem 24)) := by simp [Program.elem, Try.underlying24]
  have he : Try.prog.elem 24 = 26 := by simp [Program.elem, Try.underlying24]
  rw [run_slice_h W 24 _ _ _ ht' .i64 h (by omega) (by omega), he]
  simp [sliced, Addr.add]
theorem slice_itemsB (b o m cc l : Nat) (h : l ≤ m) (hc : m ≤ cc) : ∃ q, Hid (l < m → q = some ⟨b, o + l * 4, none⟩) ∧ ∀ W, (Instr.slice 24 (.slice (some ⟨b, o, none⟩) m cc) (some (.int .i64 (l : Int))) none none).run Try.prog W = .ok (.slice q (m - l) (cc - l)) W := by
  have ht' : Try.prog.underlying 24 = some (.slice (Try.prog.elem 24)) := by simp [Program.elem, Try.underlying24]
  have he : Try.prog.elem 24 = 26 := by simp [Program.elem, Try.underlying24]
  refine ⟨if cc = l then some ⟨b, o, none⟩ else some ⟨b, o + l * 4, none⟩, fun h64 => if_neg (by omega), fun W => ?_⟩
  rw [run_slice_l W 24 _ _ _ ht' .i64 l (by omega) (by omega), he]
  by_cases e : cc = l
  · simp [sliced, e]
  · rcases Nat.eq_zero_or_pos l with h0 | h0
    · subst h0
      simp [sliced, Addr.add]
    · simp [sliced, Addr.add, e]
      omega

/-- An item stored whole into a variable: what each step meets. -/
theorem itemStore {w1 : World} {R : Nat} {A : Array Value} (C1 : Cells w1 R A) (hA : A.size = 4) (s : ByteArray) (t d : Int) (p : Option Addr) (n c : Nat) :
    ∃ X, Hid ((((w1.setCell ⟨R, 0, none⟩ (.string s)).setCell ⟨R, 1, none⟩ (.int .i64 t)).setCell ⟨R, 2, none⟩ (.int .i64 d)).setCell ⟨R, 3, none⟩ (.slice p n c) = X) ∧
      (∃ u, w1.cell? ⟨R, 0, none⟩ = some u) ∧ w1.frozen? ⟨R, 0, none⟩ = false ∧ (∃ u, (w1.setCell ⟨R, 0, none⟩ (.string s)).cell? ⟨R, 1, none⟩ = some u) ∧ (w1.setCell ⟨R, 0, none⟩ (.string s)).frozen? ⟨R, 1, none⟩ = false ∧
      (∃ u, ((w1.setCell ⟨R, 0, none⟩ (.string s)).setCell ⟨R, 1, none⟩ (.int .i64 t)).cell? ⟨R, 2, none⟩ = some u) ∧ ((w1.setCell ⟨R, 0, none⟩ (.string s)).setCell ⟨R, 1, none⟩ (.int .i64 t)).frozen? ⟨R, 2, none⟩ = false ∧
      (∃ u, (((w1.setCell ⟨R, 0, none⟩ (.string s)).setCell ⟨R, 1, none⟩ (.int .i64 t)).setCell ⟨R, 2, none⟩ (.int .i64 d)).cell? ⟨R, 3, none⟩ = some u) ∧ (((w1.setCell ⟨R, 0, none⟩ (.string s)).setCell ⟨R, 1, none⟩ (.int .i64 t)).setCell ⟨R, 2, none⟩ (.int .i64 d)).frozen? ⟨R, 3, none⟩ = false ∧
      X.cell? ⟨R, 0, none⟩ = some (.string s) ∧ X.cell? ⟨R, 1, none⟩ = some (.int .i64 t) ∧ X.cell? ⟨R, 2, none⟩ = some (.int .i64 d) ∧ X.cell? ⟨R, 3, none⟩ = some (.slice p n c) ∧ Hid (X.heap.size = w1.heap.size) ∧ Hid (w1.grownBy X (some R)) := by
  have D1 := C1.set 0 (by omega) (.string s)
  have D2 := D1.set 1 (by simp; omega) (.int .i64 t)
  have D3 := D2.set 2 (by simp; omega) (.int .i64 d)
  have D4 := D3.set 3 (by simp; omega) (.slice p n c)
  have so : ∀ {B : Array Value} {i : Nat}, i < B.size → ∃ u, B[i]? = some u := fun hi => ⟨_, Array.getElem?_eq_getElem hi⟩
  refine ⟨_, rfl, ?_, (C1.2 0).2, ?_, (D1.2 1).2, ?_, (D2.2 2).2, ?_, (D3.2 3).2, ?_, ?_, ?_, ?_, by simp [Hid], ((((set_grown _ _ _ _).trans (set_grown _ _ _ _)).trans (set_grown _ _ _ _)).trans (set_grown _ _ _ _))⟩
  · rw [(C1.2 0).1]; exact so (by omega)
  · rw [(D1.2 1).1]; exact so (by simp; omega)
  · rw [(D2.2 2).1]; exact so (by simp; omega)
  · rw [(D3.2 3).1]; exact so (by simp; omega)
  · rw [(D4.2 0).1]; simp [hA]
  · rw [(D4.2 1).1]; simp [hA]
  · rw [(D4.2 2).1]; simp [hA]
  · rw [(D4.2 3).1]; simp [hA]
theorem Own.keptLow {e : Nat} {w w' : World} {lo hi R : Nat} {v : Value} {n : Nat} {xs : List Int} (h : Own e w lo hi v n xs) (hg : w.grownBy w' (some R)) (hR : R < lo) : Own e w' lo hi v n xs :=
  ⟨h.1.kept hg (.inr fun k => by have := (h.1.lt R k).1; omega), h.2⟩
theorem OwnItems.keptLow {w w' : World} {lo hi R : Nat} {v : Value} {n : Nat} {its : List ItA} (h : OwnItems w lo hi v n its) (hg : w.grownBy w' (some R)) (hR : R < lo) : OwnItems w' lo hi v n its :=
  ⟨h.len, h.row.kept hg (.inr fun k => by have := (h.row.lt R k).1; omega), h.top, fun x hx => (h.bytes x hx).keptLow hg hR, h.apart, h.pair⟩

/-- An append whose run is known, as one step of a region that draws its order. -/
theorem step_append_run {P : Program} {ops : Array Oper} {o : Oper} {a : Act} {K : Act → World → Prop} {Q : Exit → Act → World → Prop} {E : Prop} {w w' : World} (hgd : o.guard = none) (s y : Operand) (t : TypeId) (ho : o.op = .call { callee := .builtin .append, args := #[s, y], argTypes := #[t, t] })
    (vs vy v : Value) (hs : a.eval s = vs) (hy : a.eval y = vy) (hr : (Builtin.append_ #[t, t] o.type #[vs, vy]).run P w = .ok v w') (h : K (a.put o.dst v) w') : if Region.wanted o (yielded ops a.tmps) = true then Oper.wp P o a w K Q else E := by
  have hw : Region.wanted o (yielded ops a.tmps) = true := by simp [Region.wanted, hgd]
  rw [if_pos hw]
  unfold Oper.wp execOp
  simp only [ho, resolve, invoke, builtin, Sem.run_bind, Sem.run_pure, Result.andThen_ok, List.map_toArray, List.map_cons, List.map_nil, hs, hy, hr]
  exact h

/-- Two rows of items of one's own, one behind the other. -/
theorem OwnItems.concat {w w' : World} {lo mid n m g : Nat} {v v' u : Value} {A B : List ItA} (h : OwnItems w lo mid v n A) (k : OwnItems w mid w.heap.size u m B) (hlm : lo ≤ mid) (hmw : mid ≤ w.heap.size) (hv : v.ownBlock = some g)
    (hrow : w'.ownsRow lo 26 4 v' (n + m) (flatI A ++ flatI B)) (hg : w.grownBy w' v.ownBlock) (hloc : v'.ownBlock = v.ownBlock ∨ v'.ownBlock = some w.heap.size) : OwnItems w' lo w'.heap.size v' (n + m) (A ++ B) := by
  have hz := hg.size
  have hgm : g < mid := h.top g hv
  have low : ∀ x ∈ A, ∀ j, x.slice.ownBlock = some j → j < mid := fun x hx j hj => (h.bytes x hx).2 j hj
  have high : ∀ x ∈ B, ∀ j, x.slice.ownBlock = some j → mid ≤ j ∧ j < w.heap.size := fun x hx j hj => ⟨((k.bytes x hx).1.lt j hj).1, (k.bytes x hx).2 j hj⟩
  have hB : ∀ x ∈ B, x.slice.ownBlock = none ∨ x.slice.ownBlock ≠ v.ownBlock := fun x hx => by
    rcases e : x.slice.ownBlock with _ | j
    · exact .inl rfl
    · right
      rw [hv]
      have := (high x hx j e).1
      simp only [ne_eq, Option.some.injEq]
      omega
  have far : ∀ x : ItA, (x.slice.ownBlock = none ∨ x.slice.ownBlock ≠ v.ownBlock) → (∀ j, x.slice.ownBlock = some j → j < w.heap.size) → x.slice.ownBlock = none ∨ x.slice.ownBlock ≠ v'.ownBlock := fun x hx hj => by
    rcases hloc with e | e
    · rw [e]; exact hx
    · rcases e2 : x.slice.ownBlock with _ | j
      · exact .inl rfl
      · right
        rw [e]
        have := hj j e2
        simp only [ne_eq, Option.some.injEq]
        omega
  refine ⟨by simp [h.len, k.len], by rw [flatI_append]; exact hrow, fun j hj => (hrow.lt j hj).2, fun x hx => ?_, fun x hx => ?_, ?_⟩
  · rcases List.mem_append.1 hx with hx | hx
    · exact Own.wide (w := w') (lo := lo) (hi := mid) ⟨(h.bytes x hx).1.kept hg (h.apart x hx), (h.bytes x hx).2⟩ (Nat.le_refl _) (by omega)
    · exact Own.wide (w := w') (lo := mid) (hi := w.heap.size) ⟨(k.bytes x hx).1.kept hg (hB x hx), (k.bytes x hx).2⟩ hlm hz
  · rcases List.mem_append.1 hx with hx | hx
    · exact far x (h.apart x hx) (fun j hj => by have := low x hx j hj; omega)
    · exact far x (hB x hx) (fun j hj => (high x hx j hj).2)
  · rw [List.pairwise_append]
    refine ⟨h.pair, k.pair, fun x hx y hy => ?_⟩
    rcases e : x.slice.ownBlock with _ | j
    · exact .inl rfl
    · right
      intro e2
      have h1 := low x hx j e
      have h2 := (high y hy j e2.symm).1
      omega

theorem run_concatItems {w : World} {lo mid n m ga ca gb cb : Nat} {A B : List ItA} (h : OwnItems w lo mid (.slice (some ⟨ga, 0, none⟩) n ca) n A) (k : OwnItems w mid w.heap.size (.slice (some ⟨gb, 0, none⟩) m cb) m B) (hlm : lo ≤ mid) (hmw : mid ≤ w.heap.size) (hn : n ≤ 1048576) (hm : m ≤ 1048576) (ty : TypeId) :
    ∃ p' cap w', (Builtin.append_ #[24, 24] ty #[.slice (some ⟨ga, 0, none⟩) n ca, .slice (some ⟨gb, 0, none⟩) m cb]).run Try.prog w = .ok (.slice p' (n + m) cap) w' ∧ OwnItems w' lo w'.heap.size (.slice p' (n + m) cap) (n + m) (A ++ B) ∧ Below lo w w' := by
  obtain ⟨i0, hi, hz0, hz1, hz2⟩ := info_parts infoItem
  obtain ⟨v', w', hr, ho, hg, _, hloc⟩ := run_append_own_at (P := Try.prog) w lo 24 ty 26 i0 _ 4 56 Try.underlying24 hi hz0 hz1 hz2 rfl (by decide) (.slice (some ⟨ga, 0, none⟩) n ca) n (flatI A) h.row ⟨gb, 0, none⟩ m cb (flatI B) k.row.1 (k.row.cells (g := gb) rfl) (fun u hu => by
    obtain ⟨x, _, hx⟩ := List.mem_flatMap.1 hu
    exact vals_one x u hx) (by unfold maxLen; omega) (by omega) (by omega)
  obtain ⟨p', cap, rfl⟩ := owns_form ho
  exact ⟨p', cap, w', hr, h.concat k hlm hmw rfl ho hg hloc, (Below.refl _ _).grown hg (by omega) (fun j hj => (h.row.lt j hj).1)⟩

set_option maxHeartbeats 8000000 in
theorem specTake_any (p : Option Addr) (n c : Nat) (its : List ItA) (s : ByteArray) (w : World) (hn : n ≤ 1048576) (hnc : n ≤ c) (hl : its.length = n) (h : ItemsIn w p n its) (li : ∀ x ∈ its, x.Lies w) (fit : ∀ x ∈ its, x.n ≤ 1048576) :
    Calls Try.prog 12 #[.slice p n c, .string s] w fun e w' => ∃ (y : ItA) (q : Option Addr) (cq : Nat) (its' : List ItA), e = .returned (.tuple #[.agg #[.string y.s, .int .i64 y.t, .int .i64 y.d, .slice y.p y.n y.c], .slice q (takeL s its).length cq, .bool (takeF s its).isSome]) ∧
      Taken w' w.heap.size w'.heap.size y (.slice q (takeL s its).length cq) (takeL s its).length its' ∧ Hid (y.con = (takeX s its).con) ∧ Hid (its'.map ItA.con = (takeL s its).map ItA.con) ∧ Below w.heap.size w w' := by
  obtain ⟨w1, hw1⟩ : ∃ w1, w1 = w.alloc (.cells #[.string { data := #[] }, .int .i64 0, .int .i64 0, .slice none 0 0] 26) := ⟨_, rfl⟩
  have b1 : Below w.heap.size w w1 := by rw [hw1]; exact made_below _ _ (Below.refl _ _)
  have C1 : Cells w1 w.heap.size #[.string { data := #[] }, .int .i64 0, .int .i64 0, .slice none 0 0] := by rw [hw1]; exact Cells.made _ _ _
  have z1 : w1.heap.size = w.heap.size + 1 := by rw [hw1]; simp
  replace hw1 : Hid (w.alloc (.cells #[.string { data := #[] }, .int .i64 0, .int .i64 0, .slice none 0 0] 26) = w1) := hw1.symm
  obtain ⟨R, hRR⟩ : ∃ R, R = w.heap.size := ⟨_, rfl⟩
  go_enter Try.func12, Try.ntmps12
  go_wp2_with (rw [hw1.out])
  rw [← hRR] at C1 ⊢
  have hRl : R < w1.heap.size := by omega
  have hwR : w.heap.size ≤ R := by omega
  clear hw1 hRR z1
  go_loopw [7] (fun i wr => ∃ k : Nat, k ≤ n ∧ i = .int .i64 k ∧ Hid (∀ x ∈ its.take k, x.s ≠ s) ∧ wr = w1) (fun i _ => n - (intOf i).toNat)
  case atStart => exact ⟨0, Nat.zero_le _, rfl, fun x hx => by simp at hx, rfl⟩
  case round =>
    obtain ⟨k, hk, rfl, hno, rfl⟩ := hrel
    by_cases hlt : k < n
    · obtain ⟨b, o, rfl, hc⟩ := itemsIn_on h b1 (by omega)
      obtain ⟨x, hx⟩ : ∃ x, its.getD k default = x := ⟨_, rfl⟩
      obtain ⟨l0, l1, l2, l3⟩ := ItemsIn.at hc hlt hx
      have hxm : x ∈ its := hx ▸ getD_mem (by omega)
      by_cases hxs : x.s = s
      · subst hxs
        have hF := takeF_some (s := x.s) (its := its) (k := k) hno.out (by omega) (by rw [hx])
        rw [hx] at hF
        have hTX : Hid ((takeX x.s its) = x) := by rw [Hid, takeX, hF]; rfl
        have hTL : Hid ((takeL x.s its) = its.take k ++ its.drop (k + 1)) := by rw [Hid, takeL, hF]; rfl
        have hTS : (takeF x.s its).isSome = true := by rw [hF]; rfl
        have lx := (li x hxm).on b1
        have hnx := fit x hxm
        have bdr : Below wr.heap.size wr wr.drew := (Below.refl _ _).drew
        have kdr := below_on b1 bdr
        obtain ⟨q2, hq2e, hq2⟩ := slice_itemsB b o n c (k + 1) (by omega) hnc
        have hk1 : ((k + 1 : Nat) : Int) = (k : Int) + 1 := by omega
        rw [hk1] at hq2
        clear hk1
        have hIA : ItemsIn wr.drew (some ⟨b, o, none⟩) k (its.take k) := fun _ => ⟨b, o, rfl, fun i j v hi hv => by
          have := hc i j v (by omega) (by rw [← hv]; congr 2; rw [List.getD_eq_getElem?_getD, List.getD_eq_getElem?_getD, List.getElem?_take, if_pos hi])
          exact this⟩
        have hIB : ∀ X, Below wr.drew.heap.size wr.drew X → ItemsIn X q2 (n - (k + 1)) (its.drop (k + 1)) := fun X bX hpos => by
          refine ⟨b, o + (k + 1) * 4, hq2e.out (by omega), fun i j v hi hv => ?_⟩
          have e := hc (k + 1 + i) j v (by omega) (by rw [← hv]; congr 2; rw [List.getD_eq_getElem?_getD, List.getD_eq_getElem?_getD, List.getElem?_drop])
          have hb' := World.block_lt_of_cell? wr _ e
          rw [show o + (k + 1) * 4 + i * 4 + j = o + (k + 1 + i) * 4 + j by omega, (below_on bdr bX).cell hb']
          exact e
        have CA := l13Queue_own (some ⟨b, o, none⟩) k c (its.take k) wr.drew (by omega) (by rw [List.length_take]; omega) hIA (fun y hy => (li y (List.mem_of_mem_take hy)).on kdr) (fun y hy => fit y (List.mem_of_mem_take hy))
        have CB := fun X (bX : Below wr.drew.heap.size wr.drew X) => l13Queue_own q2 (n - (k + 1)) (c - (k + 1)) (its.drop (k + 1)) X (by omega) (by rw [List.length_drop]; omega) (hIB X bX) (fun y hy => (li y (List.mem_of_mem_drop hy)).on (below_on kdr bX)) (fun y hy => fit y (List.mem_of_mem_drop hy))
        have hIX := fun X (bX : Below wr.heap.size wr X) => ItemsIn.at (fun i j v hi hv => by
          have e := hc i j v hi hv
          exact (bX.cell (World.block_lt_of_cell? wr _ e)).trans e) hlt hx
        obtain ⟨_, lx1, lx2⟩ := lx
        clear hno hc hx hxm hF hIA hIB h li fit
        go_wp2_with (fail)
        refine wp_region_noPanic ?_
        refine wp_region_T 10 (fun _ => True) (fun _ => True) (by kernel_rfl) ?_
        refine anyT_takeT (i := 0) (v := .slice (some ⟨b, o, none⟩) n c) rfl (by kernel_rfl) (by kernel_rfl) (by kernel_rfl) (by kernel_rfl) (fun _ _ _ h => h) (Or.inl ⟨by rfl, fun X _ => by go_simp⟩) trivial (fun _ => trivial) ?_
        simp only [Act.put, List.getElem_toArray, List.getElem_cons_zero, List.setIfInBounds_toArray, List.set_cons_zero, List.set_cons_succ]
        refine anyT_takeT (i := 1) (v := .int .i64 (k : Int)) rfl (by kernel_rfl) (by kernel_rfl) (by kernel_rfl) (by kernel_rfl) (fun _ _ _ h => h) (Or.inl ⟨by rfl, fun X _ => by go_simp⟩) trivial (fun _ => trivial) ?_
        simp only [Act.put, List.getElem_toArray, List.getElem_cons_zero, List.getElem_cons_succ, List.setIfInBounds_toArray, List.set_cons_zero, List.set_cons_succ]
        refine anyT_takeT (i := 2) (v := .slice (some ⟨b, o, none⟩) k c) rfl (by kernel_rfl) (by kernel_rfl) (by kernel_rfl) (by kernel_rfl) (fun _ _ _ h => h) (Or.inl ⟨by rfl, fun X _ => by (have hsl := slice_items b o n c k (by omega) X; go_simp)⟩) trivial (fun _ => trivial) ?_
        simp only [Act.put, List.getElem_toArray, List.getElem_cons_zero, List.getElem_cons_succ, List.setIfInBounds_toArray, List.set_cons_zero, List.set_cons_succ]
        refine anyT_takeT (i := 4) (v := .slice (some ⟨b, o, none⟩) n c) rfl (by kernel_rfl) (by kernel_rfl) (by kernel_rfl) (by kernel_rfl) (fun _ _ _ h => h) (Or.inl ⟨by rfl, fun X _ => by go_simp⟩) trivial (fun _ => trivial) ?_
        simp only [Act.put, List.getElem_toArray, List.getElem_cons_zero, List.getElem_cons_succ, List.setIfInBounds_toArray, List.set_cons_zero, List.set_cons_succ]
        refine anyT_takeT (i := 5) (v := .int .i64 (k : Int)) rfl (by kernel_rfl) (by kernel_rfl) (by kernel_rfl) (by kernel_rfl) (fun _ _ _ h => h) (Or.inl ⟨by rfl, fun X _ => by go_simp⟩) trivial (fun _ => trivial) ?_
        simp only [Act.put, List.getElem_toArray, List.getElem_cons_zero, List.getElem_cons_succ, List.setIfInBounds_toArray, List.set_cons_zero, List.set_cons_succ]
        refine anyT_takeT (i := 6) (v := .int .i64 ((k : Int) + 1)) rfl (by kernel_rfl) (by kernel_rfl) (by kernel_rfl) (by kernel_rfl) (fun _ _ _ h => h) (Or.inl ⟨by rfl, fun X _ => by (go_simp; exact IntWalk.i64_in _ (by omega))⟩) trivial (fun _ => trivial) ?_
        simp only [Act.put, List.getElem_toArray, List.getElem_cons_zero, List.getElem_cons_succ, List.setIfInBounds_toArray, List.set_cons_zero, List.set_cons_succ]
        refine anyT_takeT (i := 7) (v := .slice q2 (n - (k + 1)) (c - (k + 1))) rfl (by kernel_rfl) (by kernel_rfl) (by kernel_rfl) (by kernel_rfl) (fun _ _ _ h => h) (Or.inl ⟨by rfl, fun X _ => by (have hsl := hq2 X; go_simp)⟩) trivial (fun _ => trivial) ?_
        simp only [Act.put, List.getElem_toArray, List.getElem_cons_zero, List.getElem_cons_succ, List.setIfInBounds_toArray, List.set_cons_zero, List.set_cons_succ]
        refine anyT_one (i := 3) (by kernel_rfl) rfl (fun K hK => ?_)
        go_simp
        refine CA.mono ?_
        rintro e w3 ⟨ga, ca, A, rfl, oA, eA, bA⟩
        go_simp
        refine hK.out _ _ trivial (fun _ => trivial) ?_
        clear hK K CA
        refine anyT_one (i := 8) (by kernel_rfl) rfl (fun K hK => ?_)
        go_simp
        refine (CB _ bA).mono ?_
        rintro e w4 ⟨gb, cb, B, rfl, oB, eB, bB⟩
        go_simp
        refine hK.out _ _ trivial (fun _ => trivial) ?_
        clear hK K CB
        have zA := bA.size
        have zB := bB.size
        obtain ⟨p5, c5, w5, hrun5, o5, b5⟩ := run_concatItems (oA.on bB) oB (by omega) zB (by omega) (by omega) 24
        refine anyT_one (i := 9) (by kernel_rfl) rfl (fun K hK => ?_)
        refine step_append_run rfl _ _ 24 rfl _ _ _ rfl rfl hrun5 ?_
        refine hK.out _ _ trivial (fun _ => trivial) ?_
        clear hK K
        simp only [Act.put, List.getElem_toArray, List.getElem_cons_zero, List.getElem_cons_succ, List.setIfInBounds_toArray, List.set_cons_zero, List.set_cons_succ]
        refine anyT_one (i := 10) (by kernel_rfl) rfl (fun K hK => ?_)
        go_simp
        refine hK.out _ _ trivial (fun _ => trivial) ?_
        clear hK K
        refine anyT_done (by kernel_rfl) ?_ _
        refine NoPanic.normal ?_
        have kw5 : Below wr.heap.size wr w5 := below_on bdr ((below_on bA bB).trans (b5.mono (by exact Nat.le_refl _)))
        have z5 := kw5.size
        have hk5 : Below w.heap.size w w5 := below_on b1 kw5
        obtain ⟨m0, m1, m2, m3⟩ := hIX w5 kw5
        have lx5 := in_below lx2 kw5
        have C5 := C1.on kw5
        have eAB : Hid ((A ++ B).map ItA.con = (its.take k ++ its.drop (k + 1)).map ItA.con) := by rw [Hid, List.map_append, List.map_append, eA.out, eB.out]
        have hnm : k + (n - (k + 1)) = (its.take k ++ its.drop (k + 1)).length := by rw [List.length_append, List.length_take, List.length_drop]; omega
        rw [← hTL.out] at hnm eAB
        clear hIX kw5 b5 bA bB oA oB hrun5 hq2 lx2 bdr kdr hq2e zA zB eA eB
        go_wp2_with (fail)
        refine (l13Item_own x.s x.t x.d x.p x.n x.c x.xs _ hnx lx1 lx5).mono ?_
        rintro e w6 ⟨p6, c6, rfl, r6, b6⟩
        have z6 := b6.size
        have o6 := (o5.on b6).wide (lo' := wr.heap.size) (hi' := w6.heap.size) (Nat.le_refl _) z6
        have hap := fresh_apart o5 (x := ⟨x.s, x.t, x.d, p6, x.n, c6, x.xs⟩) r6
        have k6 : Below w.heap.size w w6 := below_on hk5 b6
        obtain ⟨X, hX, ⟨u0, y0⟩, f0, ⟨u1, y1⟩, f1, ⟨u2, y2⟩, f2, ⟨u3, y3⟩, f3, q0, q1, q2', q3, hsz, hgX⟩ := itemStore (C5.on b6) rfl x.s x.t x.d p6 x.n c6
        have oX := o6.keptLow hgX.out (by omega)
        have rX := (r6.wide (lo' := wr.heap.size) (by omega) (Nat.le_refl _)).keptLow hgX.out (by omega)
        have kX : Below w.heap.size w X := k6.grown hgX.out k6.size (fun j hj => by cases hj; exact hwR)
        clear hgX o5 o6 r6 b6 k6 C5
        go_wp2_with (rw [hX.out])
        (try simp only [Exit.inBlock, Exit.then])
        refine bodyPost_ret (v := .tuple #[.agg #[.string x.s, .int .i64 x.t, .int .i64 x.d, .slice p6 x.n c6], .slice p5 (k + (n - (k + 1))) c5, .bool true]) ?_ rfl ⟨⟨x.s, x.t, x.d, p6, x.n, c6, x.xs⟩, p5, c5, A ++ B, ?_, ?_, ?_, eAB, kX⟩
        · simp only [results, Try.f12]
          go_simp
        · rw [hTS, ← hnm]
        · have e2 := hsz.out
          rw [← hnm, e2]
          refine ⟨oX.wide (by omega) (Nat.le_refl _), rX.wide (by omega) (Nat.le_refl _), hap.1, hap.2⟩
        · rw [hTX.out]; rfl
      · have hmore : Hid (∀ y ∈ its.take (k + 1), y.s ≠ s) := fun y hy => by
          rw [take_getD (by omega), hx] at hy
          rcases List.mem_append.1 hy with e | e
          · exact hno.out y e
          · simp at e; rw [e]; exact hxs
        have e1 := str_ne hxs
        clear hno hc hx hxm
        go_wp2_with (fail)
        go_roundw
        case rel => exact ⟨k + 1, by omega, by go_num, hmore, trivial⟩
        case measure => simp [intOf]; omega
    · have hkn : k = n := by omega
      subst hkn
      have hF : takeF s its = none := takeF_none (fun x hx => hno.out x (by rw [show its.take k = its by rw [← hl, List.take_length]]; exact hx))
      have hTX : Hid (takeX s its = default) := by rw [Hid, takeX, hF]; rfl
      have hTL : Hid (takeL s its = its) := by rw [Hid, takeL, hF]; rfl
      have hTS : (takeF s its).isSome = false := by rw [hF]; rfl
      have CQ := l13Queue_own p k c its wr hn hl (itemsIn_on h b1) (fun y hy => (li y hy).on b1) fit
      have hbz : ∀ X, (Instr.build 26 #[]).run Try.prog X = .ok (.agg #[.string { data := #[] }, .int .i64 0, .int .i64 0, .slice none 0 0]) X := fun X => by kernel_rfl
      clear hno hF h li fit
      go_wp2_with (fail)
      refine CQ.mono ?_
      rintro e w6 ⟨g6, c6, B, rfl, o6, eB, b6⟩
      have z6 := b6.size
      have k6 : Below w.heap.size w w6 := below_on b1 b6
      obtain ⟨X, hX, ⟨u0, y0⟩, f0, ⟨u1, y1⟩, f1, ⟨u2, y2⟩, f2, ⟨u3, y3⟩, f3, q0, q1, q2', q3, hsz, hgX⟩ := itemStore (C1.on b6) rfl { data := #[] } 0 0 none 0 0
      have oX := o6.keptLow hgX.out (by omega)
      have kX : Below w.heap.size w X := k6.grown hgX.out k6.size (fun j hj => by cases hj; exact hwR)
      clear hgX o6 b6 k6 CQ
      go_wp2_with (rw [hX.out])
      (try simp only [Exit.inBlock, Exit.then])
      refine bodyPost_ret (v := .tuple #[.agg #[.string { data := #[] }, .int .i64 0, .int .i64 0, .slice none 0 0], .slice (some ⟨g6, 0, none⟩) k c6, .bool false]) ?_ rfl ⟨default, some ⟨g6, 0, none⟩, c6, B, ?_, ?_, ?_, ?_, kX⟩
      · simp only [results, Try.f12]
        go_simp
      · rw [hTS, hTL.out, hl]; rfl
      · have e2 := hsz.out
        rw [hTL.out, hl, e2]
        exact ⟨oX.wide (by omega) (Nat.le_refl _), ⟨World.ownsRow_nil _ _ _ _, fun k hk => by cases hk⟩, .inl rfl, fun y _ => by cases y.slice.ownBlock <;> simp [ItA.slice, default, Value.ownBlock]⟩
      · rw [Hid, hTX.out]
      · rw [Hid, hTL.out, eB.out]

end Go.Proofs.Ytkdbcplcpcdnbaa
