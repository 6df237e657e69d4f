/-
  What is put into a queue, as the program does it. Conditions: items that lie there, as many as a law hands over.
-/
import Derived.Test.YtggbmpgpopenoaaDrop
import Derived.Test.YtggbmpgpopenoaaQueueOkW
import Derived.Test.YtggbmpgpopenoaaImplTake
namespace Go.Proofs.Ytggbmpgpopenoaa
open Go.RowKit
set_option maxRecDepth 100000

/-- What stays when x comes. -/
def putK (x : ItA) (its : List ItA) : List ItA := its.filter (fun y => !(decide (0 < x.t) && (decide (y.s = x.s) && decide (y.t = x.t))))
def putL (x : ItA) (its : List ItA) : List ItA := putK x its ++ [x]
noncomputable def putR (x : ItA) (its : List ItA) : List ItA := if qB (putL x its) = true then putL x its else its

theorem Shelf.more {w : World} {lo S : Nat} {L : List PIt} {nx : Int} {N N' : Nat} (h : Shelf w lo S L nx N) (hN : N ≤ N') : Shelf w lo S L nx N' := by
  obtain ⟨B, n, m, hc, h1, h2, h3⟩ := h
  exact ⟨B, n, m, hc, h1, Nat.le_trans h2 hN, h3⟩
theorem plL_lt {its : List ItA} {z : PIt} (h : z ∈ plL its) : z.k < its.length := by
  obtain ⟨i, hi, e⟩ := List.getElem_of_mem h
  have hi' : i < its.length := by rw [plL_length] at hi; exact hi
  rw [← e]
  simp [plL]
  omega
theorem outP_map (s : ByteArray) (P : ItA → Bool) (L : List PIt) : (outP s P L).map PIt.x = (L.map PIt.x).filter (fun y => !(decide (y.s = s) && P y)) := by
  unfold outP
  rw [List.filter_map]
  rfl

theorem put1_any (x : ItA) (XB : Nat) (t0 : Int) (w : World) (h : w.cell? ⟨XB, 1, none⟩ = some (.int .i64 t0)) :
    Calls Try.prog 45 #[.agg #[.string x.s, .int .i64 x.t, .int .i64 x.d, .slice x.p x.n x.c], .pointer (some ⟨XB, 0, none⟩)] w fun e w' => e = .returned (.bool (decide (x.t = t0))) ∧ Below w.heap.size w w' := by
  have kA : ∀ o, Below w.heap.size w (w.alloc o) := fun o => made_below _ _ (Below.refl _ _)
  have h' : ∀ o, (w.alloc o).cell? ⟨XB, 1, none⟩ = some (.int .i64 t0) := fun o => ((kA o).cell (World.block_lt_of_cell? w _ h)).trans h
  go_enter Try.func45, Try.ntmps45
  go_wp2_with (fail)
  go_ret
  exact ⟨rfl, kA _⟩

set_option maxHeartbeats 8000000 in
theorem implPut_any (p : Option Addr) (n c : Nat) (its : List ItA) (x : ItA) (w : World) (hn : n ≤ 1048576) (hl : its.length = n) (h : ItemsIn w p n its) (li : ∀ y ∈ its, y.Lies w) (fit : ∀ y ∈ its, y.n ≤ 1048576) (hsz : ∀ y ∈ its, y.s.size ≤ 1048576) (lx : x.Lies w) (fx : x.n ≤ 1048576) (sx : x.s.size ≤ 1048576) :
    Calls Try.prog 11 #[.slice p n c, .agg #[.string x.s, .int .i64 x.t, .int .i64 x.d, .slice x.p x.n x.c]] w fun e w' => ∃ (q : Option Addr) (cq : Nat) (its' : List ItA), e = .returned (.tuple #[.slice q (putR x its).length cq, .bool (qB (putL x its))]) ∧
      OwnItems w' w.heap.size w'.heap.size (.slice q (putR x its).length cq) (putR x its).length its' ∧ Hid (its'.map ItA.con = (putR x its).map ItA.con) ∧ Below w.heap.size w w' := by
  obtain ⟨w1, hw1⟩ : ∃ w1, w1 = w.alloc (.cells #[.string x.s, .int .i64 x.t, .int .i64 x.d, .slice x.p x.n x.c] 26) := ⟨_, rfl⟩
  have b1 : Below w.heap.size w w1 := by rw [hw1]; exact made_below _ _ (Below.refl _ _)
  have C1 : Cells w1 w.heap.size #[.string x.s, .int .i64 x.t, .int .i64 x.d, .slice x.p x.n x.c] := by rw [hw1]; exact Cells.made _ _ _
  have hRl : w.heap.size < w1.heap.size := C1.1
  replace hw1 : Hid (w.alloc (.cells #[.string x.s, .int .i64 x.t, .int .i64 x.d, .slice x.p x.n x.c] 26) = w1) := hw1.symm
  have CS := shelved_any p n c its w1 hn hl (itemsIn_on h b1) hsz
  have hps := plL_items its
  have hpl := plL_length its
  go_enter Try.func11, Try.ntmps11
  go_wp2_with (rw [hw1.out])
  refine CS.mono ?_
  rintro e w2 ⟨S, rfl, hSh, b2⟩
  have k2 := below_on b1 b2
  have C2 := C1.on b2
  clear CS hw1
  obtain ⟨XB, hXB⟩ : ∃ XB, XB = w.heap.size := ⟨_, rfl⟩
  obtain ⟨lo, hlo⟩ : ∃ lo, lo = w1.heap.size := ⟨_, rfl⟩
  rw [← hXB] at C1 C2 hRl ⊢
  rw [← hlo] at hSh hRl
  have hXw : w.heap.size ≤ XB := by omega
  have hlow : lo ≤ w2.heap.size := by have := b2.size; omega
  clear hXB hlo C1 b2 b1
  have c0 : w2.cell? ⟨XB, 0, none⟩ = some (.string x.s) := (C2.2 0).1
  have c1 : w2.cell? ⟨XB, 1, none⟩ = some (.int .i64 x.t) := (C2.2 1).1
  have c2 : w2.cell? ⟨XB, 2, none⟩ = some (.int .i64 x.d) := (C2.2 2).1
  have c3 : w2.cell? ⟨XB, 3, none⟩ = some (.slice x.p x.n x.c) := (C2.2 3).1
  by_cases ht : 0 < x.t
  · obtain ⟨B, nn, m, hC, hS, hnn, hR⟩ := hSh
    have CD := drop_any (fun y => decide (y.t = x.t)) 45 XB (fun W => W.cell? ⟨XB, 1, none⟩ = some (.int .i64 x.t)) (fun W W' k b => (b.cell (World.block_lt_of_cell? W _ k)).trans k)
      (fun GB z W hf k => drop1_put (fun y => decide (y.t = x.t)) XB GB (fun W => W.cell? ⟨XB, 1, none⟩ = some (.int .i64 x.t)) (fun W W' k b => (b.cell (World.block_lt_of_cell? W _ k)).trans k) (fun y W k => put1_any y XB x.t W k) z W hf k)
      w2 lo S B nn m (plL its) n x.s sx (by omega) (by omega) hC hS hR
      (fun g W W' hg k gr => by
        rw [World.cell?_of_block (w := W) (gr.block XB (World.block_lt_of_cell? W _ k) (fun e => by simp only [Option.some.injEq] at e; omega))]
        exact k) c1
    have htK : Hid (putK x its = ((plL its).map PIt.x).filter (fun y => !(decide (y.s = x.s) && decide (y.t = x.t)))) := by
      rw [Hid, hps, putK]
      simp [ht]
    clear hC hR
    go_wp2_with (fail)
    refine CD.mono ?_
    rintro e w3 ⟨m', rfl, hC3, hR3, _, b3, _⟩
    have hSh3 : Shelf w3 lo S (outP x.s (fun y => decide (y.t = x.t)) (plL its)) n (n + 1) := ⟨B, nn + 1, m', hC3, hS, by omega, hR3⟩
    obtain ⟨L3, hL3⟩ : ∃ L3, L3 = outP x.s (fun y => decide (y.t = x.t)) (plL its) := ⟨_, rfl⟩
    have hsub : L3.Sublist (plL its) := by rw [hL3]; exact outP_sub _ _ _
    have hmap : Hid (L3.map PIt.x = putK x its) := by rw [Hid, htK.out, hL3, outP_map]
    rw [← hL3] at hSh3
    have C3 := cells_low C2 b3 hRl
    have k3 : Below w.heap.size w w3 := k2.trans (b3.mono (by omega))
    have hlow3 : lo ≤ w3.heap.size := by have := b3.size; omega
    clear CD hL3 htK hC3 hR3 b3 C2 c0 c1 c2 c3 k2 hlow
    have hlen3 : L3.length ≤ n := by have := hsub.length_le; omega
    have d0 : w3.cell? ⟨XB, 0, none⟩ = some (.string x.s) := (C3.2 0).1
    have d1 : w3.cell? ⟨XB, 1, none⟩ = some (.int .i64 x.t) := (C3.2 1).1
    have d2 : w3.cell? ⟨XB, 2, none⟩ = some (.int .i64 x.d) := (C3.2 2).1
    have d3 : w3.cell? ⟨XB, 3, none⟩ = some (.slice x.p x.n x.c) := (C3.2 3).1
    have CA := add_any w3 lo S L3 n (n + 1) x.s x.t x.d x.p x.n x.c x.xs sx (by omega) (by omega) (by omega) hSh3
    go_wp2_with (fail)
    refine CA.mono ?_
    rintro e w4 ⟨rfl, hSh4, b4⟩
    have k4 : Below w.heap.size w w4 := k3.trans (b4.mono (by omega))
    obtain ⟨B4, nn4, m4, hC4, _, _, hR4⟩ := hSh4
    obtain ⟨L4, hL4⟩ : ∃ L4, L4 = L3 ++ [(⟨(n : Int), ⟨x.s, x.t, x.d, x.p, x.n, x.c, x.xs⟩⟩ : PIt)] := ⟨_, rfl⟩
    rw [← hL4] at hR4
    have hinc : L4.Pairwise (fun a b => a.k < b.k) := by
      rw [hL4, List.pairwise_append]
      refine ⟨(plL_inc its).sublist hsub, List.pairwise_singleton _ _, fun a ha b hb => ?_⟩
      rw [List.mem_singleton] at hb
      rw [hb]
      have := plL_lt (hsub.subset ha)
      show a.k < (n : Int)
      omega
    have hmap4 : L4.map PIt.x = putL x its := by rw [hL4, List.map_append, hmap.out]; rfl
    have hlen4 : L4.length ≤ n + 1 := by rw [hL4, List.length_append]; simp; omega
    have l4 : w4.cell? ⟨S, 0, none⟩ = some (.map (some B4)) := (hC4.2 0).1
    have CTo := told_any w4 S B4 nn4 m4 L4 (by omega) hinc l4 hR4.weak
    rw [hmap4] at CTo
    obtain ⟨LL, hLL⟩ : ∃ LL, LL = putL x its := ⟨_, rfl⟩
    have hLn : LL.length = L4.length := by rw [hLL, ← hmap4, List.length_map]
    rw [← hLL, ← hLn] at CTo
    have hmem : ∀ y ∈ LL, y ∈ its ∨ y = x := fun y hy => by
      rw [hLL] at hy
      rcases List.mem_append.1 hy with hy | hy
      · exact .inl (List.mem_filter.1 hy).1
      · exact .inr (List.mem_singleton.1 hy)
    rw [← hLn] at hlen4
    have hans : Hid (putR x its = if qB LL = true then LL else its) := by rw [Hid, putR, ← hLL]
    replace hLL : Hid (LL = putL x its) := hLL
    have lis : ∀ y ∈ LL, y.Lies w := fun y hy => by rcases hmem y hy with e | e; exact li y e; rw [e]; exact lx
    have fits : ∀ y ∈ LL, y.n ≤ 1048576 := fun y hy => by rcases hmem y hy with e | e; exact fit y e; rw [e]; exact fx
    have szs : ∀ y ∈ LL, y.s.size ≤ 1048576 := fun y hy => by rcases hmem y hy with e | e; exact hsz y e; rw [e]; exact sx
    clear CA hR4 hC4 hinc hmap4 hL4 hLn hmem d0 d1 d2 d3 C3 k3 b4 hSh3 hmap hsub
    go_wp2_with (fail)
    refine CTo.mono ?_
    rintro e w5 ⟨g5, rfl, r5, b5⟩
    have k5 := below_on k4 b5
    have I5 := items_of_row r5 rfl
    have CQ := implQueueOkW_any (some ⟨g5, 0, none⟩) LL.length LL.length LL w5 (by omega) rfl I5 szs
    obtain ⟨nL, hnL⟩ : ∃ nL, nL = LL.length := ⟨_, rfl⟩
    rw [← hnL] at CQ I5 hlen4 ⊢
    replace hnL : Hid (nL = LL.length) := hnL
    obtain ⟨F, hF⟩ : ∃ F, F = qB LL := ⟨_, rfl⟩
    rw [← hF] at CQ
    replace hF : Hid (F = qB LL) := hF
    have z4 := k4.size
    clear CTo l4 r5
    go_wp2_with (fail)
    refine CQ.mono ?_
    rintro e w6 ⟨rfl, b6⟩
    have k6 := below_on k5 b6
    have z6 := k6.size
    have I6 := itemsIn_on I5 b6
    clear CQ
    cases F
    · have hR : Hid (putR x its = its) := by rw [Hid, hans.out, ← hF.out]; rfl
      have CC := copiedItems_own p n c its w6 (by omega) hl (itemsIn_on h k6) (fun y hy => (li y hy).on k6) fit
      go_wp2_with (fail)
      refine CC.mono ?_
      rintro e w7 ⟨p7, c7, A, rfl, o7, eA, b7⟩
      have k7 := below_on k6 b7
      clear CC
      go_wp2_with (fail)
      (try simp only [Exit.inBlock, Exit.then])
      refine bodyPost_ret (v := .tuple #[.slice p7 n c7, .bool false]) ?_ rfl ⟨p7, c7, A, ?_, ?_, ?_, k7⟩
      · simp only [results, Try.f11]
        go_simp
      · rw [hR.out, hl, ← hLL.out, ← hF.out]
      · rw [hR.out, hl]
        exact o7.wide z6 (Nat.le_refl _)
      · rw [hR.out]; exact eA
    · have hR : Hid (putR x its = LL) := by rw [Hid, hans.out, ← hF.out]; rfl
      have CC := copiedItems_own (some ⟨g5, 0, none⟩) nL nL LL w6 (by omega) hnL.out.symm I6 (fun y hy => (lis y hy).on k6) fits
      go_wp2_with (fail)
      refine CC.mono ?_
      rintro e w7 ⟨p7, c7, A, rfl, o7, eA, b7⟩
      have k7 := below_on k6 b7
      clear CC
      go_wp2_with (fail)
      (try simp only [Exit.inBlock, Exit.then])
      refine bodyPost_ret (v := .tuple #[.slice p7 nL c7, .bool true]) ?_ rfl ⟨p7, c7, A, ?_, ?_, ?_, k7⟩
      · simp only [results, Try.f11]
        go_simp
      · rw [hR.out, ← hnL.out, ← hLL.out, ← hF.out]
      · rw [hR.out, ← hnL.out]
        exact o7.wide z6 (Nat.le_refl _)
      · rw [hR.out]; exact eA
  · have htK : putK x its = its := by
      rw [putK]
      simp [ht]
    obtain ⟨w3, hw3⟩ : ∃ w3, w3 = w2 := ⟨_, rfl⟩
    obtain ⟨L3, hL3⟩ : ∃ L3, L3 = plL its := ⟨_, rfl⟩
    rw [← hw3, ← hL3] at hSh
    rw [← hw3] at C2 k2 hlow c0 c1 c2 c3 ⊢
    have hSh3 : Shelf w3 lo S L3 n (n + 1) := hSh.more (by omega)
    have hsub : L3.Sublist (plL its) := by rw [hL3]; exact List.Sublist.refl _
    have hmap : Hid (L3.map PIt.x = putK x its) := by rw [Hid, htK, hL3, hps]
    have C3 := C2
    have k3 := k2
    have hlow3 := hlow
    clear hL3 htK hw3 C2 c0 c1 c2 c3 k2 hlow hSh
    have hlen3 : L3.length ≤ n := by have := hsub.length_le; omega
    have d0 : w3.cell? ⟨XB, 0, none⟩ = some (.string x.s) := (C3.2 0).1
    have d1 : w3.cell? ⟨XB, 1, none⟩ = some (.int .i64 x.t) := (C3.2 1).1
    have d2 : w3.cell? ⟨XB, 2, none⟩ = some (.int .i64 x.d) := (C3.2 2).1
    have d3 : w3.cell? ⟨XB, 3, none⟩ = some (.slice x.p x.n x.c) := (C3.2 3).1
    have CA := add_any w3 lo S L3 n (n + 1) x.s x.t x.d x.p x.n x.c x.xs sx (by omega) (by omega) (by omega) hSh3
    go_wp2_with (fail)
    refine CA.mono ?_
    rintro e w4 ⟨rfl, hSh4, b4⟩
    have k4 : Below w.heap.size w w4 := k3.trans (b4.mono (by omega))
    obtain ⟨B4, nn4, m4, hC4, _, _, hR4⟩ := hSh4
    obtain ⟨L4, hL4⟩ : ∃ L4, L4 = L3 ++ [(⟨(n : Int), ⟨x.s, x.t, x.d, x.p, x.n, x.c, x.xs⟩⟩ : PIt)] := ⟨_, rfl⟩
    rw [← hL4] at hR4
    have hinc : L4.Pairwise (fun a b => a.k < b.k) := by
      rw [hL4, List.pairwise_append]
      refine ⟨(plL_inc its).sublist hsub, List.pairwise_singleton _ _, fun a ha b hb => ?_⟩
      rw [List.mem_singleton] at hb
      rw [hb]
      have := plL_lt (hsub.subset ha)
      show a.k < (n : Int)
      omega
    have hmap4 : L4.map PIt.x = putL x its := by rw [hL4, List.map_append, hmap.out]; rfl
    have hlen4 : L4.length ≤ n + 1 := by rw [hL4, List.length_append]; simp; omega
    have l4 : w4.cell? ⟨S, 0, none⟩ = some (.map (some B4)) := (hC4.2 0).1
    have CTo := told_any w4 S B4 nn4 m4 L4 (by omega) hinc l4 hR4.weak
    rw [hmap4] at CTo
    obtain ⟨LL, hLL⟩ : ∃ LL, LL = putL x its := ⟨_, rfl⟩
    have hLn : LL.length = L4.length := by rw [hLL, ← hmap4, List.length_map]
    rw [← hLL, ← hLn] at CTo
    have hmem : ∀ y ∈ LL, y ∈ its ∨ y = x := fun y hy => by
      rw [hLL] at hy
      rcases List.mem_append.1 hy with hy | hy
      · exact .inl (List.mem_filter.1 hy).1
      · exact .inr (List.mem_singleton.1 hy)
    rw [← hLn] at hlen4
    have hans : Hid (putR x its = if qB LL = true then LL else its) := by rw [Hid, putR, ← hLL]
    replace hLL : Hid (LL = putL x its) := hLL
    have lis : ∀ y ∈ LL, y.Lies w := fun y hy => by rcases hmem y hy with e | e; exact li y e; rw [e]; exact lx
    have fits : ∀ y ∈ LL, y.n ≤ 1048576 := fun y hy => by rcases hmem y hy with e | e; exact fit y e; rw [e]; exact fx
    have szs : ∀ y ∈ LL, y.s.size ≤ 1048576 := fun y hy => by rcases hmem y hy with e | e; exact hsz y e; rw [e]; exact sx
    clear CA hR4 hC4 hinc hmap4 hL4 hLn hmem d0 d1 d2 d3 C3 k3 b4 hSh3 hmap hsub
    go_wp2_with (fail)
    refine CTo.mono ?_
    rintro e w5 ⟨g5, rfl, r5, b5⟩
    have k5 := below_on k4 b5
    have I5 := items_of_row r5 rfl
    have CQ := implQueueOkW_any (some ⟨g5, 0, none⟩) LL.length LL.length LL w5 (by omega) rfl I5 szs
    obtain ⟨nL, hnL⟩ : ∃ nL, nL = LL.length := ⟨_, rfl⟩
    rw [← hnL] at CQ I5 hlen4 ⊢
    replace hnL : Hid (nL = LL.length) := hnL
    obtain ⟨F, hF⟩ : ∃ F, F = qB LL := ⟨_, rfl⟩
    rw [← hF] at CQ
    replace hF : Hid (F = qB LL) := hF
    have z4 := k4.size
    clear CTo l4 r5
    go_wp2_with (fail)
    refine CQ.mono ?_
    rintro e w6 ⟨rfl, b6⟩
    have k6 := below_on k5 b6
    have z6 := k6.size
    have I6 := itemsIn_on I5 b6
    clear CQ
    cases F
    · have hR : Hid (putR x its = its) := by rw [Hid, hans.out, ← hF.out]; rfl
      have CC := copiedItems_own p n c its w6 (by omega) hl (itemsIn_on h k6) (fun y hy => (li y hy).on k6) fit
      go_wp2_with (fail)
      refine CC.mono ?_
      rintro e w7 ⟨p7, c7, A, rfl, o7, eA, b7⟩
      have k7 := below_on k6 b7
      clear CC
      go_wp2_with (fail)
      (try simp only [Exit.inBlock, Exit.then])
      refine bodyPost_ret (v := .tuple #[.slice p7 n c7, .bool false]) ?_ rfl ⟨p7, c7, A, ?_, ?_, ?_, k7⟩
      · simp only [results, Try.f11]
        go_simp
      · rw [hR.out, hl, ← hLL.out, ← hF.out]
      · rw [hR.out, hl]
        exact o7.wide z6 (Nat.le_refl _)
      · rw [hR.out]; exact eA
    · have hR : Hid (putR x its = LL) := by rw [Hid, hans.out, ← hF.out]; rfl
      have CC := copiedItems_own (some ⟨g5, 0, none⟩) nL nL LL w6 (by omega) hnL.out.symm I6 (fun y hy => (lis y hy).on k6) fits
      go_wp2_with (fail)
      refine CC.mono ?_
      rintro e w7 ⟨p7, c7, A, rfl, o7, eA, b7⟩
      have k7 := below_on k6 b7
      clear CC
      go_wp2_with (fail)
      (try simp only [Exit.inBlock, Exit.then])
      refine bodyPost_ret (v := .tuple #[.slice p7 nL c7, .bool true]) ?_ rfl ⟨p7, c7, A, ?_, ?_, ?_, k7⟩
      · simp only [results, Try.f11]
        go_simp
      · rw [hR.out, ← hnL.out, ← hLL.out, ← hF.out]
      · rw [hR.out, ← hnL.out]
        exact o7.wide z6 (Nat.le_refl _)
      · rw [hR.out]; exact eA

end Go.Proofs.Ytggbmpgpopenoaa
