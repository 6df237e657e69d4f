/-
  The first item of a route, and the others, as the program takes it. Conditions: items that lie there, as many as a law hands over.
-/
import Derived.Test.YtggbmpgpopenoaaLeave
import Derived.Test.YtggbmpgpopenoaaCopiedItems
namespace Go.Proofs.Ytggbmpgpopenoaa
open Go.RowKit
set_option maxRecDepth 100000

theorem plL_inc (its : List ItA) : (plL its).Pairwise (fun a b => a.k < b.k) := by
  rw [List.pairwise_iff_getElem]
  intro i j hi hj hij
  simp [plL]
  omega
theorem plL_mem {its : List ItA} {z : PIt} (h : z ∈ plL its) : z.x ∈ its := by rw [← plL_items its]; exact List.mem_map.2 ⟨z, h, rfl⟩
/-- A row of items of one's own, as it is read. -/
theorem items_of_row {w : World} {lo g n cap : Nat} {its : List ItA} (h : w.ownsRow lo 26 4 (.slice (some ⟨g, 0, none⟩) n cap) n (flatI its)) (hl : its.length = n) : ItemsIn w (some ⟨g, 0, none⟩) n its := by
  intro _
  refine ⟨g, 0, rfl, fun i j u hi hu => ?_⟩
  have hj : j < 4 := (List.getElem?_eq_some_iff.1 hu).1
  rw [Nat.zero_add, h.cellAt (i * 4 + j) (by omega), flatI_at its i j hj (by rw [hl]; exact hi)]
  exact hu

/-- An item, and above it a list of items, each in memory of its own. -/
def Taken2 (w : World) (lo hi : Nat) (x : ItA) (v : Value) (n : Nat) (its : List ItA) : Prop :=
  ∃ mid, OwnItems w mid hi v n its ∧ Own 5 w lo mid x.slice x.n x.xs ∧ lo ≤ mid ∧ mid ≤ hi

set_option maxHeartbeats 8000000 in
theorem implTake_any (p : Option Addr) (n c : Nat) (its : List ItA) (s : ByteArray) (w : World) (hn : n ≤ 1048576) (hs : s.size ≤ 1048576) (hl : its.length = n) (h : ItemsIn w p n its) (li : ∀ x ∈ its, x.Lies w) (fit : ∀ x ∈ its, x.n ≤ 1048576) (hsz : ∀ x ∈ its, x.s.size ≤ 1048576) :
    Calls Try.prog 14 #[.slice p n c, .string s] w fun e w' => ∃ (y : ItA) (q : Option Addr) (cq : Nat) (its' : List ItA), e = .returned (.tuple #[.agg #[.string y.s, .int .i64 y.t, .int .i64 y.d, .slice y.p y.n y.c], .slice q (takeL s its).length cq, .bool (takeF s its).isSome]) ∧
      Taken2 w' w.heap.size w'.heap.size y (.slice q (takeL s its).length cq) (takeL s its).length its' ∧ Hid (y.con = (takeX s its).con) ∧ Hid (its'.map ItA.con = (takeL s its).map ItA.con) ∧ Below w.heap.size w w' := by
  obtain ⟨w1, hw1⟩ : ∃ w1, w1 = w.alloc (.cells #[.string { data := #[] }, .int .i64 0, .int .i64 0, .slice none 0 0] 26) := ⟨_, rfl⟩
  have b1 : Below w.heap.size w w1 := by rw [hw1]; exact made_below _ _ (Below.refl _ _)
  have C1 : Cells w1 w.heap.size #[.string { data := #[] }, .int .i64 0, .int .i64 0, .slice none 0 0] := by rw [hw1]; exact Cells.made _ _ _
  have hRl : w.heap.size < w1.heap.size := C1.1
  replace hw1 : Hid (w.alloc (.cells #[.string { data := #[] }, .int .i64 0, .int .i64 0, .slice none 0 0] 26) = w1) := hw1.symm
  have CS := shelved_any p n c its w1 hn hl (itemsIn_on h b1) hsz
  have hps := plL_items its
  have hpl := plL_length its
  go_enter Try.func14, Try.ntmps14
  go_wp2_with (rw [hw1.out])
  refine CS.mono ?_
  rintro e w2 ⟨S, rfl, hSh, b2⟩
  have k2 := below_on b1 b2
  have CT := take_any w2 w1.heap.size S (plL its) n n s hs (by omega) (by omega) hSh
  clear CS hSh hw1
  go_wp2_with (fail)
  refine CT.mono ?_
  rintro e w3 (⟨e0, rfl, b3⟩ | ⟨e0, x, B, nn, m, hx, rfl, l3, hW3, b3⟩)
  · have hF := rmF_none s (plL its) e0
    rw [hps] at hF
    have hTX : Hid (takeX s its = default) := by rw [Hid, takeX, hF]; rfl
    have hTL : Hid (takeL s its = its) := by rw [Hid, takeL, hF]; rfl
    have hTS : (takeF s its).isSome = false := by rw [hF]; rfl
    have k3 := below_on k2 b3
    obtain ⟨w4, hw4⟩ : ∃ w4, w4 = w3.alloc (.cells #[.string { data := #[] }, .int .i64 0, .int .i64 0, .slice none 0 0] 26) := ⟨_, rfl⟩
    have b4 : Below w3.heap.size w3 w4 := by rw [hw4]; exact made_below _ _ (Below.refl _ _)
    have k4 := below_on k3 b4
    have C4 := ((C1.on b2).on b3).on b4
    replace hw4 : Hid (w3.alloc (.cells #[.string { data := #[] }, .int .i64 0, .int .i64 0, .slice none 0 0] 26) = w4) := hw4.symm
    have CQ := copiedItems_own p n c its w4 (by omega) hl (itemsIn_on h k4) (fun y hy => (li y hy).on k4) fit
    have hbz : ∀ X, (Instr.build 26 #[]).run Try.prog X = .ok (.agg #[.string { data := #[] }, .int .i64 0, .int .i64 0, .slice none 0 0]) X := fun X => by kernel_rfl
    have z4 := k4.size
    have hR4 : w.heap.size < w4.heap.size := C4.1
    clear CT hF h li fit b1 b2 b3 b4 k2 k3 C1 e0
    go_wp2_with (fail)
    rw [hw4.out]
    refine CQ.mono ?_
    rintro e w6 ⟨p6, c6, A, rfl, o6, eA, b6⟩
    have z6 := b6.size
    have k6 : Below w.heap.size w w6 := below_on k4 b6
    obtain ⟨X, hX, ⟨u0, y0⟩, f0, ⟨u1, y1⟩, f1, ⟨u2, y2⟩, f2, ⟨u3, y3⟩, f3, q0, q1, q2', q3, hszX, hgX⟩ := itemStore (C4.on b6) rfl { data := #[] } 0 0 none 0 0
    have oX := o6.keptLow hgX.out hR4
    have kX : Below w.heap.size w X := k6.grown hgX.out k6.size (fun j hj => by cases hj; exact Nat.le_refl _)
    clear hgX o6 b6 k6 CQ C4 k4
    go_wp2_with (rw [hX.out])
    (try simp only [Exit.inBlock, Exit.then])
    refine bodyPost_ret (v := .tuple #[.agg #[.string { data := #[] }, .int .i64 0, .int .i64 0, .slice none 0 0], .slice p6 n c6, .bool false]) ?_ rfl ⟨default, p6, c6, A, ?_, ?_, ?_, ?_, kX⟩
    · simp only [results, Try.f14]
      go_simp
    · rw [hTS, hTL.out, hl]; rfl
    · have e2 := hszX.out
      rw [hTL.out, hl, e2]
      exact ⟨w4.heap.size, oX, ⟨World.ownsRow_nil _ _ _ _, fun k hk => by cases hk⟩, z4, by omega⟩
    · rw [Hid, hTX.out]
    · rw [Hid, hTL.out, eA.out]
  · have hF := rmF_take s (plL its) e0
    rw [hps, ← hx] at hF
    have hTX : Hid (takeX s its = x) := by rw [Hid, takeX, hF]; rfl
    have hTL : Hid (takeL s its = (rmF s (plL its)).map PIt.x) := by rw [Hid, takeL, hF]; rfl
    have hTS : (takeF s its).isSome = true := by rw [hF]; rfl
    have hxm : x ∈ its := by
      rw [hx]
      exact plL_mem (List.mem_filter.1 (getD_mem (l := ofR s (plL its)) (List.length_pos_iff.2 e0))).1
    have k3 : Below w.heap.size w w3 := b1.trans ((b2.trans b3).mono (by omega))
    have hsub := rmF_sub s (plL its)
    have hinc := (plL_inc its).sublist hsub
    have hlen : (rmF s (plL its)).length ≤ n := by have := hsub.length_le; omega
    have hmem : ∀ y ∈ (rmF s (plL its)).map PIt.x, y ∈ its := fun y hy => by
      obtain ⟨z, hz, rfl⟩ := List.mem_map.1 hy
      exact plL_mem (hsub.subset hz)
    obtain ⟨w4, hw4⟩ : ∃ w4, w4 = w3.alloc (.cells #[.string x.s, .int .i64 x.t, .int .i64 x.d, .slice x.p x.n x.c] 26) := ⟨_, rfl⟩
    have b4 : Below w3.heap.size w3 w4 := by rw [hw4]; exact made_below _ _ (Below.refl _ _)
    have D4 : Cells w4 w3.heap.size #[.string x.s, .int .i64 x.t, .int .i64 x.d, .slice x.p x.n x.c] := by rw [hw4]; exact Cells.made _ _ _
    have v0 : w4.cell? ⟨w3.heap.size, 0, none⟩ = some (.string x.s) := (D4.2 0).1
    have v1 : w4.cell? ⟨w3.heap.size, 1, none⟩ = some (.int .i64 x.t) := (D4.2 1).1
    have v2 : w4.cell? ⟨w3.heap.size, 2, none⟩ = some (.int .i64 x.d) := (D4.2 2).1
    have v3 : w4.cell? ⟨w3.heap.size, 3, none⟩ = some (.slice x.p x.n x.c) := (D4.2 3).1
    have k4 := below_on k3 b4
    have C4 := (cells_low C1 (b2.trans b3) hRl).on b4
    have l4 : w4.cell? ⟨S, 0, none⟩ = some (.map (some B)) := (b4.cell (World.block_lt_of_cell? w3 _ l3)).trans l3
    have hW4 := hW3.on b4
    replace hw4 : Hid (w3.alloc (.cells #[.string x.s, .int .i64 x.t, .int .i64 x.d, .slice x.p x.n x.c] 26) = w4) := hw4.symm
    have lx := (li x hxm).on k4
    have hnx := fit x hxm
    have z4 := k4.size
    clear CT hF hsub b1 b2 b3 b4 k2 k3 C1 e0 hx hW3 l3 D4
    go_wp2_with (rw [hw4.out])
    refine (copiedItem_own x.s x.t x.d x.p x.n x.c x.xs w4 hnx lx.len lx.bytes).mono ?_
    rintro e w5 ⟨p5, c5, rfl, r5, b5⟩
    have CTo := told_any w5 S B nn m (rmF s (plL its)) (by omega) hinc ((b5.cell (World.block_lt_of_cell? w4 _ l4)).trans l4) (hW4.on b5)
    obtain ⟨LL, hLL⟩ : ∃ LL, LL = (rmF s (plL its)).map PIt.x := ⟨_, rfl⟩
    have hLn : LL.length = (rmF s (plL its)).length := by rw [hLL, List.length_map]
    rw [← hLL] at CTo hTL hmem
    rw [← hLn] at CTo hlen
    have k5 := below_on k4 b5
    clear lx hW4 v0 v1 v2 v3 l4 hw4 hLL hLn hinc
    go_wp2_with (fail)
    refine CTo.mono ?_
    rintro e w6 ⟨g6, rfl, r6, b6⟩
    have k6 := below_on k5 b6
    have CQ := copiedItems_own (some ⟨g6, 0, none⟩) LL.length LL.length LL w6 (by omega) rfl (items_of_row r6 rfl) (fun y hy => (li y (hmem y hy)).on k6) (fun y hy => fit y (hmem y hy))
    have r5' := r5.on b6
    have C6 := (C4.on b5).on b6
    have z5 := b5.size
    have z6 := b6.size
    obtain ⟨nL, hnL⟩ : ∃ nL, nL = LL.length := ⟨_, rfl⟩
    rw [← hnL] at CQ ⊢
    clear CTo r6 h li fit hmem
    replace hnL : Hid (nL = LL.length) := hnL
    go_wp2_with (fail)
    refine CQ.mono ?_
    rintro e w7 ⟨p7, c7, A, rfl, o7, eA, b7⟩
    have k7 := below_on k6 b7
    have z7 := b7.size
    have r7 := r5'.on b7
    obtain ⟨X, hX, ⟨u0, y0⟩, f0, ⟨u1, y1⟩, f1, ⟨u2, y2⟩, f2, ⟨u3, y3⟩, f3, q0, q1, q2', q3, hszX, hgX⟩ := itemStore (C6.on b7) rfl x.s x.t x.d p5 x.n c5
    have hRw : w.heap.size < w4.heap.size := C4.1
    have oX := o7.keptLow hgX.out (by omega)
    have rX := r7.keptLow hgX.out (by omega)
    have kX : Below w.heap.size w X := k7.grown hgX.out k7.size (fun j hj => by cases hj; exact Nat.le_refl _)
    clear hgX o7 r7 r5 r5' b5 b6 b7 k5 k6 k7 C4 C6 CQ k4
    go_wp2_with (rw [hX.out])
    (try simp only [Exit.inBlock, Exit.then])
    refine bodyPost_ret (v := .tuple #[.agg #[.string x.s, .int .i64 x.t, .int .i64 x.d, .slice p5 x.n c5], .slice p7 nL c7, .bool true]) ?_ rfl ⟨⟨x.s, x.t, x.d, p5, x.n, c5, x.xs⟩, p7, c7, A, ?_, ?_, ?_, ?_, kX⟩
    · simp only [results, Try.f14]
      go_simp
    · rw [hTS, hTL.out, ← hnL.out]
    · have e2 := hszX.out
      rw [hTL.out, ← hnL.out, e2]
      exact ⟨w6.heap.size, oX, rX.wide (by omega) (by omega), by omega, by omega⟩
    · rw [Hid, hTX.out]; rfl
    · rw [Hid, hTL.out, eA.out]

end Go.Proofs.Ytggbmpgpopenoaa
