/-
  The first item of a route, and the others, as the program takes it. Conditions: items that lie there, as many as a law hands over.
  What is put into a queue, as the program does it. Conditions: items that lie there, as many as a law hands over.
  FnExactQueueOk returns true for any list of items, and writes nothing that was there; conditions: lengths that there can be.
  What is put into a queue, as the specification says it. Conditions: items that lie there, as many as a law hands over.
  What is not due yet, as the specification says it. Conditions: items that lie there, as many as a law hands over.
  A store at a key that is there, inside a range over that map. Conditions: the key is there.
-/
import Derived.Test.YtkdbcplcpcdnbaaPart06
import Derived.Test.YtkdbcplcpcdnbaaPart07
import Derived.Test.YtkdbcplcpcdnbaaPart02
import Derived.Test.YtkdbcplcpcdnbaaPart04
namespace Go.Proofs.Ytkdbcplcpcdnbaa
open Go.RowKit
set_option maxRecDepth 100000

theorem plL_inc (its : List ItA) : (plL its).Pairwise (fun a b => a.k < b.k) := by
  rw [List.pairwise_iff_getElem]
  intro i j hi hj hij
  simp [plL]
  omega
theorem plL_mem {its : List ItA} {z : PIt} (h : z ∈ plL its) : z.x ∈ its := by rw [← plL_items its]; exact List.mem_map.2 ⟨z, h, rfl⟩
/-- A row of items of one's own, as it is read. -/
theorem items_of_row {w : World} {lo g n cap : Nat} {its : List ItA} (h : w.ownsRow lo 26 4 (.slice (some ⟨g, 0, none⟩) n cap) n (flatI its)) (hl : its.length = n) : ItemsIn w (some ⟨g, 0, none⟩) n its := by
  intro _
  refine ⟨g, 0, rfl, fun i j u hi hu => ?_⟩
  have hj : j < 4 := (List.getElem?_eq_some_iff.1 hu).1
  rw [Nat.zero_add, h.cellAt (i * 4 + j) (by omega), flatI_at its i j hj (by rw [hl]; exact hi)]
  exact hu

/-- An item, and above it a list of items, each in memory of its own. -/
def Taken2 (w : World) (lo hi : Nat) (x : ItA) (v : Value) (n : Nat) (its : List ItA) : Prop :=
  ∃ mid, OwnItems w mid hi v n its ∧ Own 5 w lo mid x.slice x.n x.xs ∧ lo ≤ mid ∧ mid ≤ hi

set_option maxHeartbeats 8000000 in
theorem implTake_any (p : Option Addr) (n c : Nat) (its : List ItA) (s : ByteArray) (w : World) (hn : n ≤ 1048576) (hs : s.size ≤ 1048576) (hl : its.length = n) (h : ItemsIn w p n its) (li : ∀ x ∈ its, x.Lies w) (fit : ∀ x ∈ its, x.n ≤ 1048576) (hsz : ∀ x ∈ its, x.s.size ≤ 1048576) :
    Calls Try.prog 11 #[.slice p n c, .string s] w fun e w' => ∃ (y : ItA) (q : Option Addr) (cq : Nat) (its' : List ItA), e = .returned (.tuple #[.agg #[.string y.s, .int .i64 y.t, .int .i64 y.d, .slice y.p y.n y.c], .slice q (takeL s its).length cq, .bool (takeF s its).isSome]) ∧
      Taken2 w' w.heap.size w'.heap.size y (.slice q (takeL s its).length cq) (takeL s its).length its' ∧ Hid (y.con = (takeX s its).con) ∧ Hid (its'.map ItA.con = (takeL s its).map ItA.con) ∧ Below w.heap.size w w' := by
  obtain ⟨w1, hw1⟩ : ∃ w1, w1 = w.alloc (.cells #[.string { data := #[] }, .int .i64 0, .int .i64 0, .slice none 0 0] 26) := ⟨_, rfl⟩
  have b1 : Below w.heap.size w w1 := by rw [hw1]; exact made_below _ _ (Below.refl _ _)
  have C1 : Cells w1 w.heap.size #[.string { data := #[] }, .int .i64 0, .int .i64 0, .slice none 0 0] := by rw [hw1]; exact Cells.made _ _ _
  have hRl : w.heap.size < w1.heap.size := C1.1
  replace hw1 : Hid (w.alloc (.cells #[.string { data := #[] }, .int .i64 0, .int .i64 0, .slice none 0 0] 26) = w1) := hw1.symm
  have CS := shelved_any p n c its w1 hn hl (itemsIn_on h b1) hsz
  have hps := plL_items its
  have hpl := plL_length its
  go_enter Try.func11, Try.ntmps11
  go_wp2_with (rw [hw1.out])
  refine CS.mono ?_
  rintro e w2 ⟨S, rfl, hSh, b2⟩
  have k2 := below_on b1 b2
  have CT := take_any w2 w1.heap.size S (plL its) n n s hs (by omega) (by omega) hSh
  clear CS hSh hw1
  go_wp2_with (fail)
  refine CT.mono ?_
  rintro e w3 (⟨e0, rfl, b3⟩ | ⟨e0, x, B, nn, m, hx, rfl, l3, hW3, b3⟩)
  · have hF := rmF_none s (plL its) e0
    rw [hps] at hF
    have hTX : Hid (takeX s its = default) := by rw [Hid, takeX, hF]; rfl
    have hTL : Hid (takeL s its = its) := by rw [Hid, takeL, hF]; rfl
    have hTS : (takeF s its).isSome = false := by rw [hF]; rfl
    have k3 := below_on k2 b3
    obtain ⟨w4, hw4⟩ : ∃ w4, w4 = w3.alloc (.cells #[.string { data := #[] }, .int .i64 0, .int .i64 0, .slice none 0 0] 26) := ⟨_, rfl⟩
    have b4 : Below w3.heap.size w3 w4 := by rw [hw4]; exact made_below _ _ (Below.refl _ _)
    have k4 := below_on k3 b4
    have C4 := ((C1.on b2).on b3).on b4
    replace hw4 : Hid (w3.alloc (.cells #[.string { data := #[] }, .int .i64 0, .int .i64 0, .slice none 0 0] 26) = w4) := hw4.symm
    have CQ := copiedItems_own p n c its w4 (by omega) hl (itemsIn_on h k4) (fun y hy => (li y hy).on k4) fit
    have hbz : ∀ X, (Instr.build 26 #[]).run Try.prog X = .ok (.agg #[.string { data := #[] }, .int .i64 0, .int .i64 0, .slice none 0 0]) X := fun X => by kernel_rfl
    have z4 := k4.size
    have hR4 : w.heap.size < w4.heap.size := C4.1
    clear CT hF h li fit b1 b2 b3 b4 k2 k3 C1 e0
    go_wp2_with (fail)
    rw [hw4.out]
    refine CQ.mono ?_
    rintro e w6 ⟨p6, c6, A, rfl, o6, eA, b6⟩
    have z6 := b6.size
    have k6 : Below w.heap.size w w6 := below_on k4 b6
    obtain ⟨X, hX, ⟨u0, y0⟩, f0, ⟨u1, y1⟩, f1, ⟨u2, y2⟩, f2, ⟨u3, y3⟩, f3, q0, q1, q2', q3, hszX, hgX⟩ := itemStore (C4.on b6) rfl { data := #[] } 0 0 none 0 0
    have oX := o6.keptLow hgX.out hR4
    have kX : Below w.heap.size w X := k6.grown hgX.out k6.size (fun j hj => by cases hj; exact Nat.le_refl _)
    clear hgX o6 b6 k6 CQ C4 k4
    go_wp2_with (rw [hX.out])
    (try simp only [Exit.inBlock, Exit.then])
    refine bodyPost_ret (v := .tuple #[.agg #[.string { data := #[] }, .int .i64 0, .int .i64 0, .slice none 0 0], .slice p6 n c6, .bool false]) ?_ rfl ⟨default, p6, c6, A, ?_, ?_, ?_, ?_, kX⟩
    · simp only [results, Try.f11]
      go_simp
    · rw [hTS, hTL.out, hl]; rfl
    · have e2 := hszX.out
      rw [hTL.out, hl, e2]
      exact ⟨w4.heap.size, oX, ⟨World.ownsRow_nil _ _ _ _, fun k hk => by cases hk⟩, z4, by omega⟩
    · rw [Hid, hTX.out]
    · rw [Hid, hTL.out, eA.out]
  · have hF := rmF_take s (plL its) e0
    rw [hps, ← hx] at hF
    have hTX : Hid (takeX s its = x) := by rw [Hid, takeX, hF]; rfl
    have hTL : Hid (takeL s its = (rmF s (plL its)).map PIt.x) := by rw [Hid, takeL, hF]; rfl
    have hTS : (takeF s its).isSome = true := by rw [hF]; rfl
    have hxm : x ∈ its := by
      rw [hx]
      exact plL_mem (List.mem_filter.1 (getD_mem (l := ofR s (plL its)) (List.length_pos_iff.2 e0))).1
    have k3 : Below w.heap.size w w3 := b1.trans ((b2.trans b3).mono (by omega))
    have hsub := rmF_sub s (plL its)
    have hinc := (plL_inc its).sublist hsub
    have hlen : (rmF s (plL its)).length ≤ n := by have := hsub.length_le; omega
    have hmem : ∀ y ∈ (rmF s (plL its)).map PIt.x, y ∈ its := fun y hy => by
      obtain ⟨z, hz, rfl⟩ := List.mem_map.1 hy
      exact plL_mem (hsub.subset hz)
    obtain ⟨w4, hw4⟩ : ∃ w4, w4 = w3.alloc (.cells #[.string x.s, .int .i64 x.t, .int .i64 x.d, .slice x.p x.n x.c] 26) := ⟨_, rfl⟩
    have b4 : Below w3.heap.size w3 w4 := by rw [hw4]; exact made_below _ _ (Below.refl _ _)
    have D4 : Cells w4 w3.heap.size #[.string x.s, .int .i64 x.t, .int .i64 x.d, .slice x.p x.n x.c] := by rw [hw4]; exact Cells.made _ _ _
    have v0 : w4.cell? ⟨w3.heap.size, 0, none⟩ = some (.string x.s) := (D4.2 0).1
    have v1 : w4.cell? ⟨w3.heap.size, 1, none⟩ = some (.int .i64 x.t) := (D4.2 1).1
    have v2 : w4.cell? ⟨w3.heap.size, 2, none⟩ = some (.int .i64 x.d) := (D4.2 2).1
    have v3 : w4.cell? ⟨w3.heap.size, 3, none⟩ = some (.slice x.p x.n x.c) := (D4.2 3).1
    have k4 := below_on k3 b4
    have C4 := (cells_low C1 (b2.trans b3) hRl).on b4
    have l4 : w4.cell? ⟨S, 0, none⟩ = some (.map (some B)) := (b4.cell (World.block_lt_of_cell? w3 _ l3)).trans l3
    have hW4 := hW3.on b4
    replace hw4 : Hid (w3.alloc (.cells #[.string x.s, .int .i64 x.t, .int .i64 x.d, .slice x.p x.n x.c] 26) = w4) := hw4.symm
    have lx := (li x hxm).on k4
    have hnx := fit x hxm
    have z4 := k4.size
    clear CT hF hsub b1 b2 b3 b4 k2 k3 C1 e0 hx hW3 l3 D4
    go_wp2_with (rw [hw4.out])
    refine (copiedItem_own x.s x.t x.d x.p x.n x.c x.xs w4 hnx lx.len lx.bytes).mono ?_
    rintro e w5 ⟨p5, c5, rfl, r5, b5⟩
    have CTo := told_any w5 S B nn m (rmF s (plL its)) (by omega) hinc ((b5.cell (World.block_lt_of_cell? w4 _ l4)).trans l4) (hW4.on b5)
    obtain ⟨LL, hLL⟩ : ∃ LL, LL = (rmF s (plL its)).map PIt.x := ⟨_, rfl⟩
    have hLn : LL.length = (rmF s (plL its)).length := by rw [hLL, List.length_map]
    rw [← hLL] at CTo hTL hmem
    rw [← hLn] at CTo hlen
    have k5 := below_on k4 b5
    clear lx hW4 v0 v1 v2 v3 l4 hw4 hLL hLn hinc
    go_wp2_with (fail)
    refine CTo.mono ?_
    rintro e w6 ⟨g6, rfl, r6, b6⟩
    have k6 := below_on k5 b6
    have CQ := copiedItems_own (some ⟨g6, 0, none⟩) LL.length LL.length LL w6 (by omega) rfl (items_of_row r6 rfl) (fun y hy => (li y (hmem y hy)).on k6) (fun y hy => fit y (hmem y hy))
    have r5' := r5.on b6
    have C6 := (C4.on b5).on b6
    have z5 := b5.size
    have z6 := b6.size
    obtain ⟨nL, hnL⟩ : ∃ nL, nL = LL.length := ⟨_, rfl⟩
    rw [← hnL] at CQ ⊢
    clear CTo r6 h li fit hmem
    replace hnL : Hid (nL = LL.length) := hnL
    go_wp2_with (fail)
    refine CQ.mono ?_
    rintro e w7 ⟨p7, c7, A, rfl, o7, eA, b7⟩
    have k7 := below_on k6 b7
    have z7 := b7.size
    have r7 := r5'.on b7
    obtain ⟨X, hX, ⟨u0, y0⟩, f0, ⟨u1, y1⟩, f1, ⟨u2, y2⟩, f2, ⟨u3, y3⟩, f3, q0, q1, q2', q3, hszX, hgX⟩ := itemStore (C6.on b7) rfl x.s x.t x.d p5 x.n c5
    have hRw : w.heap.size < w4.heap.size := C4.1
    have oX := o7.keptLow hgX.out (by omega)
    have rX := r7.keptLow hgX.out (by omega)
    have kX : Below w.heap.size w X := k7.grown hgX.out k7.size (fun j hj => by cases hj; exact Nat.le_refl _)
    clear hgX o7 r7 r5 r5' b5 b6 b7 k5 k6 k7 C4 C6 CQ k4
    go_wp2_with (rw [hX.out])
    (try simp only [Exit.inBlock, Exit.then])
    refine bodyPost_ret (v := .tuple #[.agg #[.string x.s, .int .i64 x.t, .int .i64 x.d, .slice p5 x.n c5], .slice p7 nL c7, .bool true]) ?_ rfl ⟨⟨x.s, x.t, x.d, p5, x.n, c5, x.xs⟩, p7, c7, A, ?_, ?_, ?_, ?_, kX⟩
    · simp only [results, Try.f11]
      go_simp
    · rw [hTS, hTL.out, ← hnL.out]
    · have e2 := hszX.out
      rw [hTL.out, ← hnL.out, e2]
      exact ⟨w6.heap.size, oX, rX.wide (by omega) (by omega), by omega, by omega⟩
    · rw [Hid, hTX.out]; rfl
    · rw [Hid, hTL.out, eA.out]

end Go.Proofs.Ytkdbcplcpcdnbaa

namespace Go.Proofs.Ytkdbcplcpcdnbaa
open Go.RowKit
set_option maxRecDepth 100000

/-- What stays when x comes. -/
def putK (x : ItA) (its : List ItA) : List ItA := its.filter (fun y => !(decide (0 < x.t) && (decide (y.s = x.s) && decide (y.t = x.t))))
def putL (x : ItA) (its : List ItA) : List ItA := putK x its ++ [x]
noncomputable def putR (x : ItA) (its : List ItA) : List ItA := if qB (putL x its) = true then putL x its else its

theorem Shelf.more {w : World} {lo S : Nat} {L : List PIt} {nx : Int} {N N' : Nat} (h : Shelf w lo S L nx N) (hN : N ≤ N') : Shelf w lo S L nx N' := by
  obtain ⟨B, n, m, hc, h1, h2, h3⟩ := h
  exact ⟨B, n, m, hc, h1, Nat.le_trans h2 hN, h3⟩
theorem plL_lt {its : List ItA} {z : PIt} (h : z ∈ plL its) : z.k < its.length := by
  obtain ⟨i, hi, e⟩ := List.getElem_of_mem h
  have hi' : i < its.length := by rw [plL_length] at hi; exact hi
  rw [← e]
  simp [plL]
  omega
theorem outP_map (s : ByteArray) (P : ItA → Bool) (L : List PIt) : (outP s P L).map PIt.x = (L.map PIt.x).filter (fun y => !(decide (y.s = s) && P y)) := by
  unfold outP
  rw [List.filter_map]
  rfl

theorem put1_any (x : ItA) (XB : Nat) (t0 : Int) (w : World) (h : w.cell? ⟨XB, 1, none⟩ = some (.int .i64 t0)) :
    Calls Try.prog 43 #[.agg #[.string x.s, .int .i64 x.t, .int .i64 x.d, .slice x.p x.n x.c], .pointer (some ⟨XB, 0, none⟩)] w fun e w' => e = .returned (.bool (decide (x.t = t0))) ∧ Below w.heap.size w w' := by
  have kA : ∀ o, Below w.heap.size w (w.alloc o) := fun o => made_below _ _ (Below.refl _ _)
  have h' : ∀ o, (w.alloc o).cell? ⟨XB, 1, none⟩ = some (.int .i64 t0) := fun o => ((kA o).cell (World.block_lt_of_cell? w _ h)).trans h
  go_enter Try.func43, Try.ntmps43
  go_wp2_with (fail)
  go_ret
  exact ⟨rfl, kA _⟩

set_option maxHeartbeats 8000000 in
theorem implPut_any (p : Option Addr) (n c : Nat) (its : List ItA) (x : ItA) (w : World) (hn : n ≤ 1048576) (hl : its.length = n) (h : ItemsIn w p n its) (li : ∀ y ∈ its, y.Lies w) (fit : ∀ y ∈ its, y.n ≤ 1048576) (hsz : ∀ y ∈ its, y.s.size ≤ 1048576) (lx : x.Lies w) (fx : x.n ≤ 1048576) (sx : x.s.size ≤ 1048576) :
    Calls Try.prog 8 #[.slice p n c, .agg #[.string x.s, .int .i64 x.t, .int .i64 x.d, .slice x.p x.n x.c]] w fun e w' => ∃ (q : Option Addr) (cq : Nat) (its' : List ItA), e = .returned (.tuple #[.slice q (putR x its).length cq, .bool (qB (putL x its))]) ∧
      OwnItems w' w.heap.size w'.heap.size (.slice q (putR x its).length cq) (putR x its).length its' ∧ Hid (its'.map ItA.con = (putR x its).map ItA.con) ∧ Below w.heap.size w w' := by
  obtain ⟨w1, hw1⟩ : ∃ w1, w1 = w.alloc (.cells #[.string x.s, .int .i64 x.t, .int .i64 x.d, .slice x.p x.n x.c] 26) := ⟨_, rfl⟩
  have b1 : Below w.heap.size w w1 := by rw [hw1]; exact made_below _ _ (Below.refl _ _)
  have C1 : Cells w1 w.heap.size #[.string x.s, .int .i64 x.t, .int .i64 x.d, .slice x.p x.n x.c] := by rw [hw1]; exact Cells.made _ _ _
  have hRl : w.heap.size < w1.heap.size := C1.1
  replace hw1 : Hid (w.alloc (.cells #[.string x.s, .int .i64 x.t, .int .i64 x.d, .slice x.p x.n x.c] 26) = w1) := hw1.symm
  have CS := shelved_any p n c its w1 hn hl (itemsIn_on h b1) hsz
  have hps := plL_items its
  have hpl := plL_length its
  go_enter Try.func8, Try.ntmps8
  go_wp2_with (rw [hw1.out])
  refine CS.mono ?_
  rintro e w2 ⟨S, rfl, hSh, b2⟩
  have k2 := below_on b1 b2
  have C2 := C1.on b2
  clear CS hw1
  obtain ⟨XB, hXB⟩ : ∃ XB, XB = w.heap.size := ⟨_, rfl⟩
  obtain ⟨lo, hlo⟩ : ∃ lo, lo = w1.heap.size := ⟨_, rfl⟩
  rw [← hXB] at C1 C2 hRl ⊢
  rw [← hlo] at hSh hRl
  have hXw : w.heap.size ≤ XB := by omega
  have hlow : lo ≤ w2.heap.size := by have := b2.size; omega
  clear hXB hlo C1 b2 b1
  have c0 : w2.cell? ⟨XB, 0, none⟩ = some (.string x.s) := (C2.2 0).1
  have c1 : w2.cell? ⟨XB, 1, none⟩ = some (.int .i64 x.t) := (C2.2 1).1
  have c2 : w2.cell? ⟨XB, 2, none⟩ = some (.int .i64 x.d) := (C2.2 2).1
  have c3 : w2.cell? ⟨XB, 3, none⟩ = some (.slice x.p x.n x.c) := (C2.2 3).1
  by_cases ht : 0 < x.t
  · obtain ⟨B, nn, m, hC, hS, hnn, hR⟩ := hSh
    have CD := drop_any (fun y => decide (y.t = x.t)) 43 XB (fun W => W.cell? ⟨XB, 1, none⟩ = some (.int .i64 x.t)) (fun W W' k b => (b.cell (World.block_lt_of_cell? W _ k)).trans k)
      (fun GB z W hf k => drop1_put (fun y => decide (y.t = x.t)) XB GB (fun W => W.cell? ⟨XB, 1, none⟩ = some (.int .i64 x.t)) (fun W W' k b => (b.cell (World.block_lt_of_cell? W _ k)).trans k) (fun y W k => put1_any y XB x.t W k) z W hf k)
      w2 lo S B nn m (plL its) n x.s sx (by omega) (by omega) hC hS hR
      (fun g W W' hg k gr => by
        rw [World.cell?_of_block (w := W) (gr.block XB (World.block_lt_of_cell? W _ k) (fun e => by simp only [Option.some.injEq] at e; omega))]
        exact k) c1
    have htK : Hid (putK x its = ((plL its).map PIt.x).filter (fun y => !(decide (y.s = x.s) && decide (y.t = x.t)))) := by
      rw [Hid, hps, putK]
      simp [ht]
    clear hC hR
    go_wp2_with (fail)
    refine CD.mono ?_
    rintro e w3 ⟨m', rfl, hC3, hR3, _, b3, _⟩
    have hSh3 : Shelf w3 lo S (outP x.s (fun y => decide (y.t = x.t)) (plL its)) n (n + 1) := ⟨B, nn + 1, m', hC3, hS, by omega, hR3⟩
    obtain ⟨L3, hL3⟩ : ∃ L3, L3 = outP x.s (fun y => decide (y.t = x.t)) (plL its) := ⟨_, rfl⟩
    have hsub : L3.Sublist (plL its) := by rw [hL3]; exact outP_sub _ _ _
    have hmap : Hid (L3.map PIt.x = putK x its) := by rw [Hid, htK.out, hL3, outP_map]
    rw [← hL3] at hSh3
    have C3 := cells_low C2 b3 hRl
    have k3 : Below w.heap.size w w3 := k2.trans (b3.mono (by omega))
    have hlow3 : lo ≤ w3.heap.size := by have := b3.size; omega
    clear CD hL3 htK hC3 hR3 b3 C2 c0 c1 c2 c3 k2 hlow
    have hlen3 : L3.length ≤ n := by have := hsub.length_le; omega
    have d0 : w3.cell? ⟨XB, 0, none⟩ = some (.string x.s) := (C3.2 0).1
    have d1 : w3.cell? ⟨XB, 1, none⟩ = some (.int .i64 x.t) := (C3.2 1).1
    have d2 : w3.cell? ⟨XB, 2, none⟩ = some (.int .i64 x.d) := (C3.2 2).1
    have d3 : w3.cell? ⟨XB, 3, none⟩ = some (.slice x.p x.n x.c) := (C3.2 3).1
    have CA := add_any w3 lo S L3 n (n + 1) x.s x.t x.d x.p x.n x.c x.xs sx (by omega) (by omega) (by omega) hSh3
    go_wp2_with (fail)
    refine CA.mono ?_
    rintro e w4 ⟨rfl, hSh4, b4⟩
    have k4 : Below w.heap.size w w4 := k3.trans (b4.mono (by omega))
    obtain ⟨B4, nn4, m4, hC4, _, _, hR4⟩ := hSh4
    obtain ⟨L4, hL4⟩ : ∃ L4, L4 = L3 ++ [(⟨(n : Int), ⟨x.s, x.t, x.d, x.p, x.n, x.c, x.xs⟩⟩ : PIt)] := ⟨_, rfl⟩
    rw [← hL4] at hR4
    have hinc : L4.Pairwise (fun a b => a.k < b.k) := by
      rw [hL4, List.pairwise_append]
      refine ⟨(plL_inc its).sublist hsub, List.pairwise_singleton _ _, fun a ha b hb => ?_⟩
      rw [List.mem_singleton] at hb
      rw [hb]
      have := plL_lt (hsub.subset ha)
      show a.k < (n : Int)
      omega
    have hmap4 : L4.map PIt.x = putL x its := by rw [hL4, List.map_append, hmap.out]; rfl
    have hlen4 : L4.length ≤ n + 1 := by rw [hL4, List.length_append]; simp; omega
    have l4 : w4.cell? ⟨S, 0, none⟩ = some (.map (some B4)) := (hC4.2 0).1
    have CTo := told_any w4 S B4 nn4 m4 L4 (by omega) hinc l4 hR4.weak
    rw [hmap4] at CTo
    obtain ⟨LL, hLL⟩ : ∃ LL, LL = putL x its := ⟨_, rfl⟩
    have hLn : LL.length = L4.length := by rw [hLL, ← hmap4, List.length_map]
    rw [← hLL, ← hLn] at CTo
    have hmem : ∀ y ∈ LL, y ∈ its ∨ y = x := fun y hy => by
      rw [hLL] at hy
      rcases List.mem_append.1 hy with hy | hy
      · exact .inl (List.mem_filter.1 hy).1
      · exact .inr (List.mem_singleton.1 hy)
    rw [← hLn] at hlen4
    have hans : Hid (putR x its = if qB LL = true then LL else its) := by rw [Hid, putR, ← hLL]
    replace hLL : Hid (LL = putL x its) := hLL
    have lis : ∀ y ∈ LL, y.Lies w := fun y hy => by rcases hmem y hy with e | e; exact li y e; rw [e]; exact lx
    have fits : ∀ y ∈ LL, y.n ≤ 1048576 := fun y hy => by rcases hmem y hy with e | e; exact fit y e; rw [e]; exact fx
    have szs : ∀ y ∈ LL, y.s.size ≤ 1048576 := fun y hy => by rcases hmem y hy with e | e; exact hsz y e; rw [e]; exact sx
    clear CA hR4 hC4 hinc hmap4 hL4 hLn hmem d0 d1 d2 d3 C3 k3 b4 hSh3 hmap hsub
    go_wp2_with (fail)
    refine CTo.mono ?_
    rintro e w5 ⟨g5, rfl, r5, b5⟩
    have k5 := below_on k4 b5
    have I5 := items_of_row r5 rfl
    have CQ := implQueueOkW_any (some ⟨g5, 0, none⟩) LL.length LL.length LL w5 (by omega) rfl I5 szs
    obtain ⟨nL, hnL⟩ : ∃ nL, nL = LL.length := ⟨_, rfl⟩
    rw [← hnL] at CQ I5 hlen4 ⊢
    replace hnL : Hid (nL = LL.length) := hnL
    obtain ⟨F, hF⟩ : ∃ F, F = qB LL := ⟨_, rfl⟩
    rw [← hF] at CQ
    replace hF : Hid (F = qB LL) := hF
    have z4 := k4.size
    clear CTo l4 r5
    go_wp2_with (fail)
    refine CQ.mono ?_
    rintro e w6 ⟨rfl, b6⟩
    have k6 := below_on k5 b6
    have z6 := k6.size
    have I6 := itemsIn_on I5 b6
    clear CQ
    cases F
    · have hR : Hid (putR x its = its) := by rw [Hid, hans.out, ← hF.out]; rfl
      have CC := copiedItems_own p n c its w6 (by omega) hl (itemsIn_on h k6) (fun y hy => (li y hy).on k6) fit
      go_wp2_with (fail)
      refine CC.mono ?_
      rintro e w7 ⟨p7, c7, A, rfl, o7, eA, b7⟩
      have k7 := below_on k6 b7
      clear CC
      go_wp2_with (fail)
      (try simp only [Exit.inBlock, Exit.then])
      refine bodyPost_ret (v := .tuple #[.slice p7 n c7, .bool false]) ?_ rfl ⟨p7, c7, A, ?_, ?_, ?_, k7⟩
      · simp only [results, Try.f8]
        go_simp
      · rw [hR.out, hl, ← hLL.out, ← hF.out]
      · rw [hR.out, hl]
        exact o7.wide z6 (Nat.le_refl _)
      · rw [hR.out]; exact eA
    · have hR : Hid (putR x its = LL) := by rw [Hid, hans.out, ← hF.out]; rfl
      have CC := copiedItems_own (some ⟨g5, 0, none⟩) nL nL LL w6 (by omega) hnL.out.symm I6 (fun y hy => (lis y hy).on k6) fits
      go_wp2_with (fail)
      refine CC.mono ?_
      rintro e w7 ⟨p7, c7, A, rfl, o7, eA, b7⟩
      have k7 := below_on k6 b7
      clear CC
      go_wp2_with (fail)
      (try simp only [Exit.inBlock, Exit.then])
      refine bodyPost_ret (v := .tuple #[.slice p7 nL c7, .bool true]) ?_ rfl ⟨p7, c7, A, ?_, ?_, ?_, k7⟩
      · simp only [results, Try.f8]
        go_simp
      · rw [hR.out, ← hnL.out, ← hLL.out, ← hF.out]
      · rw [hR.out, ← hnL.out]
        exact o7.wide z6 (Nat.le_refl _)
      · rw [hR.out]; exact eA
  · have htK : putK x its = its := by
      rw [putK]
      simp [ht]
    obtain ⟨w3, hw3⟩ : ∃ w3, w3 = w2 := ⟨_, rfl⟩
    obtain ⟨L3, hL3⟩ : ∃ L3, L3 = plL its := ⟨_, rfl⟩
    rw [← hw3, ← hL3] at hSh
    rw [← hw3] at C2 k2 hlow c0 c1 c2 c3 ⊢
    have hSh3 : Shelf w3 lo S L3 n (n + 1) := hSh.more (by omega)
    have hsub : L3.Sublist (plL its) := by rw [hL3]; exact List.Sublist.refl _
    have hmap : Hid (L3.map PIt.x = putK x its) := by rw [Hid, htK, hL3, hps]
    have C3 := C2
    have k3 := k2
    have hlow3 := hlow
    clear hL3 htK hw3 C2 c0 c1 c2 c3 k2 hlow hSh
    have hlen3 : L3.length ≤ n := by have := hsub.length_le; omega
    have d0 : w3.cell? ⟨XB, 0, none⟩ = some (.string x.s) := (C3.2 0).1
    have d1 : w3.cell? ⟨XB, 1, none⟩ = some (.int .i64 x.t) := (C3.2 1).1
    have d2 : w3.cell? ⟨XB, 2, none⟩ = some (.int .i64 x.d) := (C3.2 2).1
    have d3 : w3.cell? ⟨XB, 3, none⟩ = some (.slice x.p x.n x.c) := (C3.2 3).1
    have CA := add_any w3 lo S L3 n (n + 1) x.s x.t x.d x.p x.n x.c x.xs sx (by omega) (by omega) (by omega) hSh3
    go_wp2_with (fail)
    refine CA.mono ?_
    rintro e w4 ⟨rfl, hSh4, b4⟩
    have k4 : Below w.heap.size w w4 := k3.trans (b4.mono (by omega))
    obtain ⟨B4, nn4, m4, hC4, _, _, hR4⟩ := hSh4
    obtain ⟨L4, hL4⟩ : ∃ L4, L4 = L3 ++ [(⟨(n : Int), ⟨x.s, x.t, x.d, x.p, x.n, x.c, x.xs⟩⟩ : PIt)] := ⟨_, rfl⟩
    rw [← hL4] at hR4
    have hinc : L4.Pairwise (fun a b => a.k < b.k) := by
      rw [hL4, List.pairwise_append]
      refine ⟨(plL_inc its).sublist hsub, List.pairwise_singleton _ _, fun a ha b hb => ?_⟩
      rw [List.mem_singleton] at hb
      rw [hb]
      have := plL_lt (hsub.subset ha)
      show a.k < (n : Int)
      omega
    have hmap4 : L4.map PIt.x = putL x its := by rw [hL4, List.map_append, hmap.out]; rfl
    have hlen4 : L4.length ≤ n + 1 := by rw [hL4, List.length_append]; simp; omega
    have l4 : w4.cell? ⟨S, 0, none⟩ = some (.map (some B4)) := (hC4.2 0).1
    have CTo := told_any w4 S B4 nn4 m4 L4 (by omega) hinc l4 hR4.weak
    rw [hmap4] at CTo
    obtain ⟨LL, hLL⟩ : ∃ LL, LL = putL x its := ⟨_, rfl⟩
    have hLn : LL.length = L4.length := by rw [hLL, ← hmap4, List.length_map]
    rw [← hLL, ← hLn] at CTo
    have hmem : ∀ y ∈ LL, y ∈ its ∨ y = x := fun y hy => by
      rw [hLL] at hy
      rcases List.mem_append.1 hy with hy | hy
      · exact .inl (List.mem_filter.1 hy).1
      · exact .inr (List.mem_singleton.1 hy)
    rw [← hLn] at hlen4
    have hans : Hid (putR x its = if qB LL = true then LL else its) := by rw [Hid, putR, ← hLL]
    replace hLL : Hid (LL = putL x its) := hLL
    have lis : ∀ y ∈ LL, y.Lies w := fun y hy => by rcases hmem y hy with e | e; exact li y e; rw [e]; exact lx
    have fits : ∀ y ∈ LL, y.n ≤ 1048576 := fun y hy => by rcases hmem y hy with e | e; exact fit y e; rw [e]; exact fx
    have szs : ∀ y ∈ LL, y.s.size ≤ 1048576 := fun y hy => by rcases hmem y hy with e | e; exact hsz y e; rw [e]; exact sx
    clear CA hR4 hC4 hinc hmap4 hL4 hLn hmem d0 d1 d2 d3 C3 k3 b4 hSh3 hmap hsub
    go_wp2_with (fail)
    refine CTo.mono ?_
    rintro e w5 ⟨g5, rfl, r5, b5⟩
    have k5 := below_on k4 b5
    have I5 := items_of_row r5 rfl
    have CQ := implQueueOkW_any (some ⟨g5, 0, none⟩) LL.length LL.length LL w5 (by omega) rfl I5 szs
    obtain ⟨nL, hnL⟩ : ∃ nL, nL = LL.length := ⟨_, rfl⟩
    rw [← hnL] at CQ I5 hlen4 ⊢
    replace hnL : Hid (nL = LL.length) := hnL
    obtain ⟨F, hF⟩ : ∃ F, F = qB LL := ⟨_, rfl⟩
    rw [← hF] at CQ
    replace hF : Hid (F = qB LL) := hF
    have z4 := k4.size
    clear CTo l4 r5
    go_wp2_with (fail)
    refine CQ.mono ?_
    rintro e w6 ⟨rfl, b6⟩
    have k6 := below_on k5 b6
    have z6 := k6.size
    have I6 := itemsIn_on I5 b6
    clear CQ
    cases F
    · have hR : Hid (putR x its = its) := by rw [Hid, hans.out, ← hF.out]; rfl
      have CC := copiedItems_own p n c its w6 (by omega) hl (itemsIn_on h k6) (fun y hy => (li y hy).on k6) fit
      go_wp2_with (fail)
      refine CC.mono ?_
      rintro e w7 ⟨p7, c7, A, rfl, o7, eA, b7⟩
      have k7 := below_on k6 b7
      clear CC
      go_wp2_with (fail)
      (try simp only [Exit.inBlock, Exit.then])
      refine bodyPost_ret (v := .tuple #[.slice p7 n c7, .bool false]) ?_ rfl ⟨p7, c7, A, ?_, ?_, ?_, k7⟩
      · simp only [results, Try.f8]
        go_simp
      · rw [hR.out, hl, ← hLL.out, ← hF.out]
      · rw [hR.out, hl]
        exact o7.wide z6 (Nat.le_refl _)
      · rw [hR.out]; exact eA
    · have hR : Hid (putR x its = LL) := by rw [Hid, hans.out, ← hF.out]; rfl
      have CC := copiedItems_own (some ⟨g5, 0, none⟩) nL nL LL w6 (by omega) hnL.out.symm I6 (fun y hy => (lis y hy).on k6) fits
      go_wp2_with (fail)
      refine CC.mono ?_
      rintro e w7 ⟨p7, c7, A, rfl, o7, eA, b7⟩
      have k7 := below_on k6 b7
      clear CC
      go_wp2_with (fail)
      (try simp only [Exit.inBlock, Exit.then])
      refine bodyPost_ret (v := .tuple #[.slice p7 nL c7, .bool true]) ?_ rfl ⟨p7, c7, A, ?_, ?_, ?_, k7⟩
      · simp only [results, Try.f8]
        go_simp
      · rw [hR.out, ← hnL.out, ← hLL.out, ← hF.out]
      · rw [hR.out, ← hnL.out]
        exact o7.wide z6 (Nat.le_refl _)
      · rw [hR.out]; exact eA

end Go.Proofs.Ytkdbcplcpcdnbaa

namespace Go.Proofs.Ytkdbcplcpcdnbaa
open Go.RowKit
set_option maxRecDepth 100000

theorem cntI_con (s : ByteArray) {its its' : List ItA} (e : its'.map ItA.con = its.map ItA.con) : cntI s its' = cntI s its := by
  have f : ∀ l : List ItA, cntI s l = (l.map ItA.con).countP (fun c => decide (c.1 = s)) := fun l => by
    rw [cntI, List.countP_map]; rfl
  rw [f, f, e]
theorem getD_con {its its' : List ItA} (e : its'.map ItA.con = its.map ItA.con) (i : Nat) : (its'.getD i default).con = (its.getD i default).con := by
  have := congrArg (fun l => l.getD i (default : ItA).con) e
  simpa [List.getD_eq_getElem?_getD, List.getElem?_map, Option.getD_map] using this
theorem OwnItems.lens {w : World} {lo hi : Nat} {v : Value} {n : Nat} {its : List ItA} (h : OwnItems w lo hi v n its) : ∀ x ∈ its, x.xs.length = x.n := fun x hx => (h.bytes x hx).len
theorem qB_con {its its' : List ItA} (e : its'.map ItA.con = its.map ItA.con) (h : ∀ x ∈ its, x.xs.length = x.n) (h' : ∀ x ∈ its', x.xs.length = x.n) : qB its' = qB its := by
  have hl := con_len e
  have each : ∀ i, i < its.length → (okAt its' i ↔ okAt its i) := fun i hi => by
    have e1 := getD_con e i
    have n1 := h _ (getD_mem hi)
    have n2 := h' _ (getD_mem (l := its') (k := i) (by omega))
    simp only [ItA.con, Prod.mk.injEq] at e1
    have en : (its'.getD i default).n = (its.getD i default).n := by rw [← n1, ← n2, e1.2.2.2]
    unfold okAt
    rw [e1.1, e1.2.1, e1.2.2.1, en, cntI_con _ e]
    refine and_congr_right fun _ => and_congr_right fun _ => forall_congr' fun k => forall_congr' fun _ => ?_
    have e2 := getD_con e k
    simp only [ItA.con, Prod.mk.injEq] at e2
    unfold clash
    rw [e1.1, e1.2.1, e2.1, e2.2.1]
  have hq : QOk its' ↔ QOk its := by
    unfold QOk
    rw [hl]
    exact and_congr_right fun _ => forall_congr' fun i => forall_congr' fun hi => each i hi
  by_cases q : QOk its
  · rw [qB_true q, qB_true (hq.2 q)]
  · rw [qB_false q, qB_false (fun k => q (hq.1 k))]

end Go.Proofs.Ytkdbcplcpcdnbaa

namespace Go.Proofs.Ytkdbcplcpcdnbaa
open Go.RowKit
set_option maxRecDepth 100000

theorem putK_step (x : ItA) (its : List ItA) (k : Nat) (h : k < its.length) : putK x (its.take (k + 1)) = putK x (its.take k) ++ putK x [its.getD k default] := by
  rw [take_getD h]
  simp [putK]
theorem putK_len (x : ItA) (its : List ItA) : (putK x its).length ≤ its.length := List.length_filter_le _ _

set_option maxHeartbeats 8000000 in
theorem specPut_any (p : Option Addr) (n c : Nat) (its : List ItA) (x : ItA) (w : World) (hn : n ≤ 1048576) (hl : its.length = n) (h : ItemsIn w p n its) (li : ∀ y ∈ its, y.Lies w) (fit : ∀ y ∈ its, y.n ≤ 1048576) (hsz : ∀ y ∈ its, y.s.size ≤ 1048576) (lx : x.Lies w) (fx : x.n ≤ 1048576) (sx : x.s.size ≤ 1048576) :
    Calls Try.prog 9 #[.slice p n c, .agg #[.string x.s, .int .i64 x.t, .int .i64 x.d, .slice x.p x.n x.c]] w fun e w' => ∃ (q : Option Addr) (cq : Nat) (its' : List ItA), e = .returned (.tuple #[.slice q (putR x its).length cq, .bool (qB (putL x its))]) ∧
      OwnItems w' w.heap.size w'.heap.size (.slice q (putR x its).length cq) (putR x its).length its' ∧ Hid (its'.map ItA.con = (putR x its).map ItA.con) ∧ Below w.heap.size w w' := by
  obtain ⟨w0, hw0⟩ : ∃ w0, w0 = w.alloc (.cells #[.string x.s, .int .i64 x.t, .int .i64 x.d, .slice x.p x.n x.c] 26) := ⟨_, rfl⟩
  have b0 : Below w.heap.size w w0 := by rw [hw0]; exact made_below _ _ (Below.refl _ _)
  have C0 : Cells w0 w.heap.size #[.string x.s, .int .i64 x.t, .int .i64 x.d, .slice x.p x.n x.c] := by rw [hw0]; exact Cells.made _ _ _
  replace hw0 : Hid (w.alloc (.cells #[.string x.s, .int .i64 x.t, .int .i64 x.d, .slice x.p x.n x.c] 26) = w0) := hw0.symm
  have hN := OwnItems.none13 w0 w0.heap.size (Nat.le_refl _)
  obtain ⟨w1, hw1⟩ : ∃ w1, w1 = w0.alloc (.cells #[] 26) := ⟨_, rfl⟩
  have b1 : Below w0.heap.size w0 w1 := by rw [hw1]; exact made_below _ _ (Below.refl _ _)
  rw [← hw1] at hN
  replace hw1 : Hid (w0.alloc (.cells #[] 26) = w1) := hw1.symm
  have hX0 : w.heap.size < w0.heap.size := C0.1
  have z1 := b1.size
  go_enter Try.func9, Try.ntmps9
  go_wp2_with (first | rw [hw0.out] | rw [hw1.out])
  obtain ⟨XB, hXB⟩ : ∃ XB, XB = w.heap.size := ⟨_, rfl⟩
  rw [← hXB] at C0 ⊢
  have hXw : w.heap.size ≤ XB ∧ XB < w0.heap.size := by omega
  clear hw1 hw0 hXB
  go_loopw [6, 7] (fun a i wr => ∃ k : Nat, k ≤ n ∧ i = .int .i64 k ∧ (∃ (done : List ItA) (j g cap : Nat), a = .slice (some ⟨g, 0, none⟩) j cap ∧ j ≤ k ∧ Hid (done.map ItA.con = (putK x (its.take k)).map ItA.con) ∧ OwnItems wr w0.heap.size wr.heap.size (.slice (some ⟨g, 0, none⟩) j cap) j done) ∧ Below w0.heap.size w0 wr) (fun _ i _ => n - (intOf i).toNat)
  case atStart => exact ⟨0, Nat.zero_le _, rfl, ⟨[], 0, w0.heap.size, 0, rfl, Nat.le_refl _, rfl, hN⟩, b1⟩
  case round =>
    clear hN b1
    obtain ⟨k, hk, rfl, ⟨done, j, g, cap, rfl, hj, hdc, hO⟩, hbel⟩ := hrel
    have hb0 := below_on b0 hbel
    have CX := C0.on hbel
    have e0 : wr.cell? ⟨XB, 0, none⟩ = some (.string x.s) := (CX.2 0).1
    have e1 : wr.cell? ⟨XB, 1, none⟩ = some (.int .i64 x.t) := (CX.2 1).1
    have e2 : wr.cell? ⟨XB, 2, none⟩ = some (.int .i64 x.d) := (CX.2 2).1
    have e3 : wr.cell? ⟨XB, 3, none⟩ = some (.slice x.p x.n x.c) := (CX.2 3).1
    by_cases hlt : k < n
    · obtain ⟨b, o, rfl, hc⟩ := itemsIn_on h hb0 (by omega)
      obtain ⟨y, hy⟩ : ∃ y, its.getD k default = y := ⟨_, rfl⟩
      obtain ⟨l0, l1, l2, l3⟩ := ItemsIn.at hc hlt hy
      have hym : y ∈ its := hy ▸ getD_mem (by omega)
      have ly := (li y hym).on hb0
      have hny := fit y hym
      have hst := putK_step x its k (by omega)
      rw [hy] at hst
      have hstay : Hid (¬ (0 < x.t ∧ y.s = x.s ∧ y.t = x.t) → done.map ItA.con ++ [y.con] = (putK x (its.take (k + 1))).map ItA.con) := fun q => by
        rw [hst, List.map_append, hdc.out]
        congr 1
        have : putK x [y] = [y] := by
          rw [putK, List.filter_eq_self]
          intro z hz
          rw [List.mem_singleton] at hz
          subst hz
          have := Classical.not_and_iff_not_or_not.1 q
          have h2 := fun (k : 0 < x.t) (k1 : z.s = x.s) (k2 : z.t = x.t) => q ⟨k, k1, k2⟩
          by_cases a1 : 0 < x.t
          · by_cases a2 : z.s = x.s
            · have a3 : z.t ≠ x.t := fun a3 => q ⟨a1, a2, a3⟩
              simp [a3]
            · simp [a2]
          · simp [a1]
        rw [this]; rfl
      have hgo : Hid ((0 < x.t ∧ y.s = x.s ∧ y.t = x.t) → done.map ItA.con = (putK x (its.take (k + 1))).map ItA.con) := fun q => by
        rw [hst, List.map_append, hdc.out]
        simp [putK, q.1, q.2.1, q.2.2]
      clear hst hdc hy hym hc h li fit CX
      obtain ⟨y1, y2, y3⟩ := ly
      have Bd : ∀ N, Below wr.heap.size wr (wr.drewN N) := fun N => below_drewN (Below.refl _ _) N
      by_cases hout : 0 < x.t ∧ y.s = x.s ∧ y.t = x.t
      · replace hgo : Hid _ := hgo.out hout
        obtain ⟨q1, q2, q3⟩ := hout
        rw [q2] at l0
        rw [q3] at l1
        have q0 : ¬ x.t ≤ 0 := by omega
        have tS : (x.s.toList == x.s.toList) = true := by simp
        clear hstay
        go_wp2_with (fail)
        go_quiet (fail)
        go_wp2_with (fail)
        go_roundw
        case rel => exact ⟨k + 1, by omega, by go_num, ⟨done, j, g, cap, rfl, by omega, hgo, hO.on (below_drewN (Below.refl _ _) _)⟩, below_drewN hbel _⟩
        case measure => simp [intOf]; omega
      · replace hstay : Hid _ := hstay.out hout
        clear hgo
        by_cases q1 : x.t ≤ 0
        · · clear hout
            go_wp2_with (fail)
            go_quiet (fail)
            go_wp2_with (fail)
            refine (l13Item_own y.s y.t y.d y.p y.n y.c y.xs _ hny y2 (in_below y3 (below_drewN (Below.refl _ _) _))).mono ?_
            rintro z w2 ⟨p2, c2, rfl, r2, b2⟩
            have b2' : Below wr.heap.size wr w2 := (below_drewN (Below.refl _ _) _).trans b2
            have hO2 := (hO.on b2').wide (lo' := w0.heap.size) (hi' := w2.heap.size) (Nat.le_refl _) b2'.size
            have hap := fresh_apart hO (x := ⟨y.s, y.t, y.d, p2, y.n, c2, y.xs⟩) r2
            have hbel2 := below_on hbel b2'
            have hz2 := hbel2.size
            have hnew : Hid ((done ++ [(⟨y.s, y.t, y.d, p2, y.n, c2, y.xs⟩ : ItA)]).map ItA.con = (putK x (its.take (k + 1))).map ItA.con) := by
              rw [Hid, List.map_append, ← hstay.out]; rfl
            have r2' : Own 5 w2 w0.heap.size w2.heap.size (ItA.slice ⟨y.s, y.t, y.d, p2, y.n, c2, y.xs⟩) y.n y.xs := Own.wide r2 hbel.size (Nat.le_refl _)
            clear hO b2 b2' r2 hstay l0 l1 l2 l3 e0 e1 e2 e3
            go_wp2_with (at_builtin; refine list_pushItem (w := w2) ⟨y.s, y.t, y.d, p2, y.n, c2, y.xs⟩ hO2 r2' hap.1 hap.2 (by omega) hz2 _ _ rfl rfl rfl rfl ?_; intro g3 c3 w3 hO3 hb3)
            go_roundw
            case rel => exact ⟨k + 1, by omega, by go_num, ⟨_, j + 1, g3, c3, rfl, by omega, hnew, hO3⟩, hbel2.trans hb3⟩
            case measure => simp [intOf]; omega
        · by_cases q2 : y.s = x.s
          · have q3 : y.t ≠ x.t := fun q3 => hout ⟨by omega, q2, q3⟩
            have q3' : (y.t != x.t) = true := by simp [q3]
            have tS : (y.s.toList == x.s.toList) = true := by rw [q2]; simp
            clear q2 q3 hout
            go_wp2_with (fail)
            go_quiet (fail)
            go_wp2_with (fail)
            refine (l13Item_own y.s y.t y.d y.p y.n y.c y.xs _ hny y2 (in_below y3 (below_drewN (Below.refl _ _) _))).mono ?_
            rintro z w2 ⟨p2, c2, rfl, r2, b2⟩
            have b2' : Below wr.heap.size wr w2 := (below_drewN (Below.refl _ _) _).trans b2
            have hO2 := (hO.on b2').wide (lo' := w0.heap.size) (hi' := w2.heap.size) (Nat.le_refl _) b2'.size
            have hap := fresh_apart hO (x := ⟨y.s, y.t, y.d, p2, y.n, c2, y.xs⟩) r2
            have hbel2 := below_on hbel b2'
            have hz2 := hbel2.size
            have hnew : Hid ((done ++ [(⟨y.s, y.t, y.d, p2, y.n, c2, y.xs⟩ : ItA)]).map ItA.con = (putK x (its.take (k + 1))).map ItA.con) := by
              rw [Hid, List.map_append, ← hstay.out]; rfl
            have r2' : Own 5 w2 w0.heap.size w2.heap.size (ItA.slice ⟨y.s, y.t, y.d, p2, y.n, c2, y.xs⟩) y.n y.xs := Own.wide r2 hbel.size (Nat.le_refl _)
            clear hO b2 b2' r2 hstay l0 l1 l2 l3 e0 e1 e2 e3
            go_wp2_with (at_builtin; refine list_pushItem (w := w2) ⟨y.s, y.t, y.d, p2, y.n, c2, y.xs⟩ hO2 r2' hap.1 hap.2 (by omega) hz2 _ _ rfl rfl rfl rfl ?_; intro g3 c3 w3 hO3 hb3)
            go_roundw
            case rel => exact ⟨k + 1, by omega, by go_num, ⟨_, j + 1, g3, c3, rfl, by omega, hnew, hO3⟩, hbel2.trans hb3⟩
            case measure => simp [intOf]; omega
          · have q2' := str_ne q2
            clear q2 hout
            go_wp2_with (fail)
            go_quiet (fail)
            go_wp2_with (fail)
            refine (l13Item_own y.s y.t y.d y.p y.n y.c y.xs _ hny y2 (in_below y3 (below_drewN (Below.refl _ _) _))).mono ?_
            rintro z w2 ⟨p2, c2, rfl, r2, b2⟩
            have b2' : Below wr.heap.size wr w2 := (below_drewN (Below.refl _ _) _).trans b2
            have hO2 := (hO.on b2').wide (lo' := w0.heap.size) (hi' := w2.heap.size) (Nat.le_refl _) b2'.size
            have hap := fresh_apart hO (x := ⟨y.s, y.t, y.d, p2, y.n, c2, y.xs⟩) r2
            have hbel2 := below_on hbel b2'
            have hz2 := hbel2.size
            have hnew : Hid ((done ++ [(⟨y.s, y.t, y.d, p2, y.n, c2, y.xs⟩ : ItA)]).map ItA.con = (putK x (its.take (k + 1))).map ItA.con) := by
              rw [Hid, List.map_append, ← hstay.out]; rfl
            have r2' : Own 5 w2 w0.heap.size w2.heap.size (ItA.slice ⟨y.s, y.t, y.d, p2, y.n, c2, y.xs⟩) y.n y.xs := Own.wide r2 hbel.size (Nat.le_refl _)
            clear hO b2 b2' r2 hstay l0 l1 l2 l3 e0 e1 e2 e3
            go_wp2_with (at_builtin; refine list_pushItem (w := w2) ⟨y.s, y.t, y.d, p2, y.n, c2, y.xs⟩ hO2 r2' hap.1 hap.2 (by omega) hz2 _ _ rfl rfl rfl rfl ?_; intro g3 c3 w3 hO3 hb3)
            go_roundw
            case rel => exact ⟨k + 1, by omega, by go_num, ⟨_, j + 1, g3, c3, rfl, by omega, hnew, hO3⟩, hbel2.trans hb3⟩
            case measure => simp [intOf]; omega
    · have hkn : k = n := by omega
      subst hkn
      rw [show its.take k = its by rw [← hl, List.take_length]] at hdc
      have lxr := lx.on hb0
      obtain ⟨x1, x2, x3⟩ := lxr
      have hCn : Hid (done.length = (putK x its).length) := by have := congrArg List.length hdc.out; rw [List.length_map, List.length_map] at this; exact this
      have hdl := hO.len
      have hz0 := hb0.size
      clear CX
      go_wp2_with (fail)
      refine (l13Item_own x.s x.t x.d x.p x.n x.c x.xs _ fx x2 x3).mono ?_
      rintro z w2 ⟨p2, c2, rfl, r2, b2⟩
      have hO2 := (hO.on b2).wide (lo' := w0.heap.size) (hi' := w2.heap.size) (Nat.le_refl _) b2.size
      have hap := fresh_apart hO (x := ⟨x.s, x.t, x.d, p2, x.n, c2, x.xs⟩) r2
      have hbel2 := below_on hbel b2
      have hz2 := hbel2.size
      have hnew : Hid ((done ++ [(⟨x.s, x.t, x.d, p2, x.n, c2, x.xs⟩ : ItA)]).map ItA.con = (putL x its).map ItA.con) := by
        rw [Hid, List.map_append, hdc.out, putL, List.map_append]; rfl
      have r2' : Own 5 w2 w0.heap.size w2.heap.size (ItA.slice ⟨x.s, x.t, x.d, p2, x.n, c2, x.xs⟩) x.n x.xs := Own.wide r2 hbel.size (Nat.le_refl _)
      have hdsz : ∀ y ∈ done ++ [(⟨x.s, x.t, x.d, p2, x.n, c2, x.xs⟩ : ItA)], y.s.size ≤ 1048576 := fun y hy => by
        rcases List.mem_append.1 hy with hy | hy
        · have : y.con ∈ (putK x its).map ItA.con := by rw [← hdc.out]; exact List.mem_map.2 ⟨y, hy, rfl⟩
          obtain ⟨v, hv, e⟩ := List.mem_map.1 this
          have e1 : v.s = y.s := congrArg Prod.fst e
          rw [← e1]
          exact hsz v (List.mem_filter.1 hv).1
        · rw [List.mem_singleton] at hy; rw [hy]; exact sx
      clear hO b2 r2 e0 e1 e2 e3
      go_wp2_with (at_builtin; refine list_pushItem (w := w2) ⟨x.s, x.t, x.d, p2, x.n, c2, x.xs⟩ hO2 r2' hap.1 hap.2 (by omega) hz2 _ _ rfl rfl rfl rfl ?_; intro g3 c3 w3 hO3 hb3)
      obtain ⟨D, hD⟩ : ∃ D, D = done ++ [(⟨x.s, x.t, x.d, p2, x.n, c2, x.xs⟩ : ItA)] := ⟨_, rfl⟩
      rw [← hD] at hnew hdsz hO3
      have hjL : Hid (j + 1 = (putL x its).length) := by rw [Hid, putL, List.length_append, ← hCn.out, hdl]; rfl
      have hk3 : Below w0.heap.size w0 w3 := hbel2.trans hb3
      have hkw3 := below_on b0 hk3
      have CQ := specQueueOkW_any (some ⟨g3, 0, none⟩) (j + 1) c3 D w3 (by omega) hO3.len hO3.items hdsz
      have hq : qB D = qB (putL x its) := qB_con hnew.out (fun y hy => by rcases List.mem_append.1 hy with hy | hy; exact (li y (List.mem_filter.1 hy).1).len; rw [List.mem_singleton] at hy; rw [hy]; exact lx.len) (fun y hy => (hO3.bytes y hy).len)
      rw [hq] at CQ
      obtain ⟨F, hF⟩ : ∃ F, F = qB (putL x its) := ⟨_, rfl⟩
      rw [← hF] at CQ
      replace hF : Hid (F = qB (putL x its)) := hF
      obtain ⟨nL, hnL⟩ : ∃ nL, nL = j + 1 := ⟨_, rfl⟩
      rw [← hnL] at CQ hO3 hjL ⊢
      clear hD hq hnL hap hO2 r2' hb3 hbel2 hbel hdc hdsz hCn hdl
      go_wp2_with (fail)
      refine CQ.mono ?_
      rintro z w4 ⟨rfl, b4⟩
      have hO4 := (hO3.on b4).wide (lo' := w0.heap.size) (hi' := w4.heap.size) (Nat.le_refl _) b4.size
      have k4 := below_on hkw3 b4
      have z4 := k4.size
      clear CQ hO3
      cases F
      · have hR : Hid (putR x its = its) := by rw [Hid, putR, ← hF.out]; rfl
        have CC := l13Queue_own p k c its w4 (by omega) hl (itemsIn_on h k4) (fun y hy => (li y hy).on k4) fit
        go_wp2_with (fail)
        refine CC.mono ?_
        rintro e w7 ⟨g7, c7, A, rfl, o7, eA, b7⟩
        have k7 := below_on k4 b7
        clear CC
        go_wp2_with (fail)
        (try simp only [Exit.inBlock, Exit.then])
        refine bodyPost_ret (v := .tuple #[.slice (some ⟨g7, 0, none⟩) k c7, .bool false]) ?_ rfl ⟨some ⟨g7, 0, none⟩, c7, A, ?_, ?_, ?_, k7⟩
        · simp only [results, Try.f9]
          go_simp
        · rw [hR.out, hl, ← hF.out]
        · rw [hR.out, hl]
          exact o7.wide z4 (Nat.le_refl _)
        · rw [hR.out]; exact eA
      · have hR : Hid (putR x its = putL x its) := by rw [Hid, putR, ← hF.out]; rfl
        go_wp2_with (fail)
        (try simp only [Exit.inBlock, Exit.then])
        refine bodyPost_ret (v := .tuple #[.slice (some ⟨g3, 0, none⟩) nL c3, .bool true]) ?_ rfl ⟨some ⟨g3, 0, none⟩, c3, D, ?_, ?_, ?_, k4⟩
        · simp only [results, Try.f9]
          go_simp
        · rw [hR.out, ← hjL.out, ← hF.out]
        · rw [hR.out, ← hjL.out]
          exact hO4.wide (by omega) (Nat.le_refl _)
        · rw [hR.out]; exact hnew

end Go.Proofs.Ytkdbcplcpcdnbaa

namespace Go.Proofs.Ytkdbcplcpcdnbaa
open Go.RowKit
set_option maxRecDepth 100000

/-- What stays at a time. -/
def dueL (now : Int) (its : List ItA) : List ItA := its.filter (fun y => decide (now ≤ y.d))
theorem dueL_step (now : Int) (its : List ItA) (k : Nat) (h : k < its.length) : dueL now (its.take (k + 1)) = dueL now (its.take k) ++ dueL now [its.getD k default] := by
  rw [take_getD h]
  simp [dueL]

set_option maxHeartbeats 8000000 in
theorem specDue_any (p : Option Addr) (n c : Nat) (its : List ItA) (now : Int) (w : World) (hn : n ≤ 1048576) (hl : its.length = n) (h : ItemsIn w p n its) (li : ∀ y ∈ its, y.Lies w) (fit : ∀ y ∈ its, y.n ≤ 1048576) :
    Calls Try.prog 20 #[.slice p n c, .int .i64 now] w fun e w' => ∃ (q : Option Addr) (cq : Nat) (its' : List ItA), e = .returned (.slice q (dueL now its).length cq) ∧
      OwnItems w' w.heap.size w'.heap.size (.slice q (dueL now its).length cq) (dueL now its).length its' ∧ Hid (its'.map ItA.con = (dueL now its).map ItA.con) ∧ Below w.heap.size w w' := by
  have hN := OwnItems.none13 w w.heap.size (Nat.le_refl _)
  obtain ⟨w1, hw1⟩ : ∃ w1, w1 = w.alloc (.cells #[] 26) := ⟨_, rfl⟩
  have b1 : Below w.heap.size w w1 := by rw [hw1]; exact made_below _ _ (Below.refl _ _)
  rw [← hw1] at hN
  replace hw1 : Hid (w.alloc (.cells #[] 26) = w1) := hw1.symm
  go_enter Try.func20, Try.ntmps20
  go_wp2_with (rw [hw1.out])
  clear hw1
  go_loopw [5, 6] (fun a i wr => ∃ k : Nat, k ≤ n ∧ i = .int .i64 k ∧ (∃ (done : List ItA) (j g cap : Nat), a = .slice (some ⟨g, 0, none⟩) j cap ∧ j ≤ k ∧ Hid (done.map ItA.con = (dueL now (its.take k)).map ItA.con) ∧ OwnItems wr w.heap.size wr.heap.size (.slice (some ⟨g, 0, none⟩) j cap) j done) ∧ Below w.heap.size w wr) (fun _ i _ => n - (intOf i).toNat)
  case atStart => exact ⟨0, Nat.zero_le _, rfl, ⟨[], 0, w.heap.size, 0, rfl, Nat.le_refl _, rfl, hN⟩, b1⟩
  case round =>
    clear hN b1
    obtain ⟨k, hk, rfl, ⟨done, j, g, cap, rfl, hj, hdc, hO⟩, hbel⟩ := hrel
    by_cases hlt : k < n
    · obtain ⟨b, o, rfl, hc⟩ := itemsIn_on h hbel (by omega)
      obtain ⟨y, hy⟩ : ∃ y, its.getD k default = y := ⟨_, rfl⟩
      obtain ⟨l0, l1, l2, l3⟩ := ItemsIn.at hc hlt hy
      have hym : y ∈ its := hy ▸ getD_mem (by omega)
      have ly := (li y hym).on hbel
      have hny := fit y hym
      have hst := dueL_step now its k (by omega)
      rw [hy] at hst
      have hstay : Hid (now ≤ y.d → done.map ItA.con ++ [y.con] = (dueL now (its.take (k + 1))).map ItA.con) := fun q => by
        rw [hst, List.map_append, hdc.out]
        simp [dueL, q]
      have hgo : Hid (¬ now ≤ y.d → done.map ItA.con = (dueL now (its.take (k + 1))).map ItA.con) := fun q => by
        rw [hst, List.map_append, hdc.out]
        simp [dueL, q]
      clear hst hdc hy hym hc h li fit
      obtain ⟨y1, y2, y3⟩ := ly
      by_cases hin : now ≤ y.d
      · replace hstay : Hid _ := hstay.out hin
        clear hgo
        go_wp2_with (fail)
        refine (l13Item_own y.s y.t y.d y.p y.n y.c y.xs _ hny y2 y3).mono ?_
        rintro z w2 ⟨p2, c2, rfl, r2, b2⟩
        have hO2 := (hO.on b2).wide (lo' := w.heap.size) (hi' := w2.heap.size) (Nat.le_refl _) b2.size
        have hap := fresh_apart hO (x := ⟨y.s, y.t, y.d, p2, y.n, c2, y.xs⟩) r2
        have hbel2 := below_on hbel b2
        have hz2 := hbel2.size
        have hnew : Hid ((done ++ [(⟨y.s, y.t, y.d, p2, y.n, c2, y.xs⟩ : ItA)]).map ItA.con = (dueL now (its.take (k + 1))).map ItA.con) := by
          rw [Hid, List.map_append, ← hstay.out]; rfl
        have r2' : Own 5 w2 w.heap.size w2.heap.size (ItA.slice ⟨y.s, y.t, y.d, p2, y.n, c2, y.xs⟩) y.n y.xs := Own.wide r2 hbel.size (Nat.le_refl _)
        clear hO b2 r2 hstay l0 l1 l2 l3
        go_wp2_with (at_builtin; refine list_pushItem (w := w2) ⟨y.s, y.t, y.d, p2, y.n, c2, y.xs⟩ hO2 r2' hap.1 hap.2 (by omega) hz2 _ _ rfl rfl rfl rfl ?_; intro g3 c3 w3 hO3 hb3)
        go_roundw
        case rel => exact ⟨k + 1, by omega, by go_num, ⟨_, j + 1, g3, c3, rfl, by omega, hnew, hO3⟩, hbel2.trans hb3⟩
        case measure => simp [intOf]; omega
      · replace hgo : Hid _ := hgo.out hin
        clear hstay
        go_wp2_with (fail)
        go_roundw
        case rel => exact ⟨k + 1, by omega, by go_num, ⟨done, j, g, cap, rfl, by omega, hgo, hO⟩, hbel⟩
        case measure => simp [intOf]; omega
    · have hkn : k = n := by omega
      subst hkn
      rw [show its.take k = its by rw [← hl, List.take_length]] at hdc
      have hjl : Hid (j = (dueL now its).length) := by have := congrArg List.length hdc.out; rw [List.length_map, List.length_map, hO.len] at this; exact this
      clear h li fit
      go_wp2_with (fail)
      go_ret
      rw [← hjl.out]
      exact ⟨_, _, done, rfl, hO, hdc, hbel⟩

end Go.Proofs.Ytkdbcplcpcdnbaa

namespace Go.Proofs.Ytkdbcplcpcdnbaa
open Go Go.ChangeMaps Go.MapKept Go.WideShapes
set_option maxRecDepth 100000
open Go.WideElems (Fit rd rg pl rd_key rd_val rg_of other_key rd_mk)
open Go.Maps (Keyed)

theorem setBlock_inj {w : World} {b : Nat} {x y : Obj} (hb : b < w.heap.size) (h : setBlock w b x = setBlock w b y) : x = y := by
  have e := congrArg (fun W : World => W.heap[b]?) h
  have h1 : ∀ o, (setBlock w b o).heap[b]? = some o := fun o => by simp [setBlock, hb]
  simp only [h1] at e
  exact Option.some.inj e

theorem ranges_store {H : Type} {P : Program} {k t e : TypeId} {R : Value → Option (DataW H × List MemPlace)} {w : World} {b r n : Nat} {D : DataW H} {left : Lit → Bool} {cnt : Nat} (h : w.ranges P k R b r n D left cnt) (K : Keyed P k) (ht : P.underlying t = some (.map k e)) (hn : n < maxLen)
    {key val : Value} {kl : Lit} {d : DataW H} {ps : List MemPlace} (hkey : keyOf P k key = some kl) (hv : R val = some (d, ps)) (hthere : Maps.has D kl = true) :
    ∃ w', (Instr.mapUpdate t (.map (some b)) key val).run P w = .ok () w' ∧ w'.ranges P k R b r n (D.put kl d) left cnt ∧ w.mapTurned w' b := by
  have hne := h.ne
  obtain ⟨es, clock, since, seen, c0, hb, F, hs, rfl, hr, hold, rfl, hl1, hl2, hsc, hsk⟩ := h
  have hbl : b < w.heap.size := (Array.getElem?_eq_some_iff.1 hb).1
  obtain ⟨es', clock', hrun, F', hput, _⟩ := Maps.fit_store (R' := R) K ht hb F (Nat.lt_of_le_of_lt hs hn) (fun _ _ _ _ hz => hz) hkey hv
  rcases K.find w hkey es.toList F.keys with ⟨h1, h2⟩ | ⟨j, e0, h1, h2, h3⟩
  · exfalso
    obtain ⟨p, hp, hpk⟩ := List.any_eq_true.1 hthere
    obtain ⟨x, hx, rfl⟩ := List.mem_map.1 (mem_sorted.1 hp)
    obtain ⟨y, hy⟩ := F.reads x hx
    refine h2 x hx ?_
    have e1 := WideAt.sameKey_eq hpk
    rw [rg_of hy] at e1
    exact K.inj (e1 ▸ rd_key hy) hkey
  · have hj : es[j]? = some e0 := by simpa using h2
    have he0 : e0 ∈ es.toList := List.mem_of_getElem? h2
    have hjl : j < es.toList.length := (List.getElem?_eq_some_iff.1 h2).1
    have hrun2 : (Instr.mapUpdate t (.map (some b)) key val).run P w = .ok () (setBlock w b (.map (es.modify j (fun e' => { e' with key := key, val := val })) clock)) := by
      simp [Instr.mapUpdate, run_underlying ht, MapKept.run_getObj_map hb, K.check w false hkey, h1, hj, h3, K.stays w hkey, MapKept.run_setObj_map _ hb, Result.andThen, setBlock]
    rw [hrun2] at hrun
    simp only [Result.ok.injEq, true_and] at hrun
    have hobj := setBlock_inj hbl hrun
    simp only [Obj.map.injEq] at hobj
    obtain ⟨rfl, rfl⟩ := hobj
    have hlist : (es.modify j (fun e' => { e' with key := key, val := val })).toList = es.toList.set j { e0 with key := key, val := val } := by
      rw [Array.toList_modify]
      exact modify_eq_set _ _ _ _ h2
    have hborn : (es.modify j (fun e' => { e' with key := key, val := val })).toList.map MapEntry.born = es.toList.map MapEntry.born := by
      rw [hlist, List.map_set]
      apply List.ext_getElem?
      intro i
      rw [List.getElem?_set]
      split
      · rename_i e
        subst e
        rw [List.length_map, if_pos hjl, List.getElem?_map, h2]
        rfl
      · rfl
    have who : ∀ x ∈ (es.modify j (fun e' => { e' with key := key, val := val })).toList, x = { e0 with key := key, val := val } ∨ x ∈ es.toList := by
      intro x hx
      rw [hlist] at hx
      rcases List.mem_or_eq_of_mem_set hx with h | h
      · exact .inr h
      · exact .inl h
    have hnew : ({ e0 with key := key, val := val } : MapEntry) ∈ (es.modify j (fun e' => { e' with key := key, val := val })).toList := by
      rw [hlist]
      exact List.mem_iff_getElem.2 ⟨j, by simpa using hjl, by simp⟩
    have kNew : (rg P k R { e0 with key := key, val := val }).1 = kl := by rw [rg_of (rd_mk hkey hv)]
    have kOld : ∀ x ∈ es.toList, x.key = key → (rg P k R x).1 = kl := fun x hx hk => by
      obtain ⟨y, hy⟩ := F.reads x hx
      have m1 := rd_key hy
      rw [hk, hkey] at m1
      rw [rg_of hy, Option.some.inj m1]
    have stays : ∀ x ∈ es.toList, x.key ≠ key → x ∈ (es.modify j (fun e' => { e' with key := key, val := val })).toList := fun x hx hk => by
      rw [hlist]
      obtain ⟨i, hi⟩ := List.getElem?_of_mem hx
      refine List.mem_of_getElem? (i := i) ?_
      rw [List.getElem?_set_ne (fun e1 => ?_)]
      · exact hi
      · subst e1
        rw [h2] at hi
        cases hi
        exact hk h3
    refine ⟨_, hrun2, ⟨_, clock, since, seen, c0, heap_setBlock_same hb _, F', by simpa using hs, by rw [DataW.put_eq, hput], (heap_setBlock_other hb _ hne).trans hr, fun x hx => ?_, ?_, fun x hx => ?_, fun k0 hk0 => ?_, hsc, hsk⟩, ⟨es, clock, _, clock, hb, rfl⟩⟩
    · rcases who x hx with rfl | hx'
      · exact hold e0 he0
      · exact hold x hx'
    · have e1 : ∀ a : Array MapEntry, (leftOf a seen).size = ((a.toList.map MapEntry.born).filter fun n => !seen.contains n).length := fun a => by
        unfold leftOf
        rw [List.filter_map, List.length_map, ← Array.length_toList, Array.toList_filter]
        rfl
      rw [e1, e1, hborn]
    · rcases who x hx with rfl | hx'
      · rw [kNew, ← kOld e0 he0 h3]
        exact hl1 e0 he0
      · exact hl1 x hx'
    · obtain ⟨x, hx, rfl⟩ := hl2 k0 hk0
      by_cases hk : x.key = key
      · exact ⟨_, hnew, by rw [kNew, kOld x hx hk]⟩
      · exact ⟨x, stays x hx hk, rfl⟩

end Go.Proofs.Ytkdbcplcpcdnbaa
