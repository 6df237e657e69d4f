/-
  What is not due yet, as the program leaves it. Conditions: items that lie there, as many as a law hands over.
-/
import Derived.Test.YtggbmpgpopenoaaDropR
import Derived.Test.YtggbmpgpopenoaaImplTake
import Derived.Test.YtggbmpgpopenoaaSpecDue
namespace Go.Proofs.Ytggbmpgpopenoaa
open Go.RowKit
set_option maxRecDepth 100000

theorem due1_any (x : ItA) (XB : Nat) (now : Int) (w : World) (h : w.cell? ⟨XB, 0, none⟩ = some (.int .i64 now)) :
    Calls Try.prog 55 #[.agg #[.string x.s, .int .i64 x.t, .int .i64 x.d, .slice x.p x.n x.c], .pointer (some ⟨XB, 0, none⟩)] w fun e w' => e = .returned (.bool (decide (x.d < now))) ∧ Below w.heap.size w w' := by
  have kA : ∀ o, Below w.heap.size w (w.alloc o) := fun o => made_below _ _ (Below.refl _ _)
  have h' : ∀ o, (w.alloc o).cell? ⟨XB, 0, none⟩ = some (.int .i64 now) := fun o => ((kA o).cell (World.block_lt_of_cell? w _ h)).trans h
  go_enter Try.func55, Try.ntmps55
  go_wp2_with (fail)
  go_ret
  exact ⟨rfl, kA _⟩

/-- What is left while the range is under way. -/
def wayL (now : Int) (left : Lit → Bool) (L : List PIt) : List PIt := L.filter (fun z => left (kl z.x.s) || !decide (z.x.d < now))
theorem wayL_sub (now : Int) (left : Lit → Bool) (L : List PIt) : (wayL now left L).Sublist L := List.filter_sublist
theorem wayL_all (now : Int) (left : Lit → Bool) (L : List PIt) (h : ∀ z ∈ L, left (kl z.x.s) = true) : wayL now left L = L := by
  rw [wayL, List.filter_eq_self]
  intro z hz
  simp [h z hz]
theorem wayL_none (now : Int) (left : Lit → Bool) (L : List PIt) (h : ∀ s, left (kl s) = false) : (wayL now left L).map PIt.x = dueL now (L.map PIt.x) := by
  rw [wayL, dueL, List.filter_map]
  congr 1
  refine List.filter_congr fun z _ => ?_
  rw [h, Bool.false_or]
  show (!decide (z.x.d < now)) = decide (now ≤ z.x.d)
  by_cases e : z.x.d < now
  · have : ¬ now ≤ z.x.d := by omega
    simp [e, this]
  · have : now ≤ z.x.d := by omega
    simp [e, this]
theorem wayL_step (now : Int) (left left' : Lit → Bool) (L : List PIt) (s : ByteArray) (hs : left (kl s) = true) (h1 : left' (kl s) = false) (h2 : ∀ y, y ≠ s → left' (kl y) = left (kl y)) : outP s (fun y => decide (y.d < now)) (wayL now left L) = wayL now left' L := by
  unfold outP wayL
  rw [List.filter_filter]
  refine List.filter_congr fun z _ => ?_
  by_cases e : z.x.s = s
  · rw [e, hs, h1]; simp
  · rw [h2 _ e]; simp [e]

set_option maxHeartbeats 8000000 in
theorem implDue_any (p : Option Addr) (n c : Nat) (its : List ItA) (now : Int) (w : World) (hn : n ≤ 1048576) (hl : its.length = n) (h : ItemsIn w p n its) (li : ∀ y ∈ its, y.Lies w) (fit : ∀ y ∈ its, y.n ≤ 1048576) (hsz : ∀ y ∈ its, y.s.size ≤ 1048576) :
    Calls Try.prog 17 #[.slice p n c, .int .i64 now] w fun e w' => ∃ (q : Option Addr) (cq : Nat) (its' : List ItA), e = .returned (.slice q (dueL now its).length cq) ∧
      OwnItems w' w.heap.size w'.heap.size (.slice q (dueL now its).length cq) (dueL now its).length its' ∧ Hid (its'.map ItA.con = (dueL now its).map ItA.con) ∧ Below w.heap.size w w' := by
  obtain ⟨w1, hw1⟩ : ∃ w1, w1 = w.alloc (.cells #[.int .i64 now] 3) := ⟨_, rfl⟩
  have b1 : Below w.heap.size w w1 := by rw [hw1]; exact made_below _ _ (Below.refl _ _)
  have C1 : Cells w1 w.heap.size #[.int .i64 now] := by rw [hw1]; exact Cells.made _ _ _
  have hRl : w.heap.size < w1.heap.size := C1.1
  replace hw1 : Hid (w.alloc (.cells #[.int .i64 now] 3) = w1) := hw1.symm
  have CS := shelved_any p n c its w1 hn hl (itemsIn_on h b1) hsz
  have hps := plL_items its
  have hpl := plL_length its
  go_enter Try.func17, Try.ntmps17
  go_wp2_with (rw [hw1.out])
  refine CS.mono ?_
  rintro e w2 ⟨S, rfl, hSh, b2⟩
  have k2 := below_on b1 b2
  have C2 := C1.on b2
  clear CS hw1
  obtain ⟨XB, hXB⟩ : ∃ XB, XB = w.heap.size := ⟨_, rfl⟩
  obtain ⟨lo, hlo⟩ : ∃ lo, lo = w1.heap.size := ⟨_, rfl⟩
  rw [← hXB] at C1 C2 hRl ⊢
  rw [← hlo] at hSh hRl
  have hXw : w.heap.size ≤ XB := by omega
  have hlow : lo ≤ w2.heap.size := by have := b2.size; omega
  clear hXB hlo C1 b2 b1
  obtain ⟨B, nn, m, hC, hS, hnn, hR⟩ := hSh
  have l2 : w2.cell? ⟨S, 0, none⟩ = some (.map (some B)) := (hC.2 0).1
  have c0 : w2.cell? ⟨XB, 0, none⟩ = some (.int .i64 now) := (C2.2 0).1
  obtain ⟨D, hown, hsay⟩ := hR.map
  have hSw := hC.1
  go_wp2_with (first
    | (at_range; refine wpList_range_own _ rfl _ 74 rfl 9 77 keyedS Try.underlying74 _ B nn _ rfl hown ?_; intro w3 hrg3 hg3 hs3)
    | go_in)
  go_frame
  obtain ⟨r, hr0⟩ : ∃ r, r = w2.heap.size := ⟨_, rfl⟩
  rw [← hr0] at hrg3 ⊢
  have b3 : Below w2.heap.size w2 w3 := (Below.refl _ _).grown hg3 (Nat.le_refl _) (fun _ h => by cases h)
  have hrlo : lo ≤ r := by omega
  have hrS : r ≠ S := by omega
  have hrX : r ≠ XB := by omega
  have hC3 := hC.on b3
  have hR3 := hR.on b3
  have k3 : Below w.heap.size w w3 := below_on k2 b3
  have c3 : w3.cell? ⟨XB, 0, none⟩ = some (.int .i64 now) := ((C2.on b3).2 0).1
  have hrows : ∀ s v, m s = some v → v.ownBlock ≠ some r := fun s v hv e => by
    have hr := hR.row s
    rw [hv] at hr
    have := (hr.lt r e).2
    omega
  have hst : wayL now (Maps.has D) (plL its) = plL its := wayL_all _ _ _ fun z hz => by
    rw [hsay.has z.x.s, hR.has]
    refine decide_eq_true fun e => ?_
    have : z ∈ ofR z.x.s (plL its) := List.mem_filter.2 ⟨hz, by simp⟩
    rw [e] at this
    simp at this
  rw [← hst] at hR3
  clear l2 c0 hown hg3 hs3 hC hR C2 k2 hst hr0 b3 hlow hSw
  go_loopw [6] (fun _ wr => ∃ (left : Lit → Bool) (cnt : Nat) (m' : ByteArray → Option Value), RangeW wr B r nn m' left cnt ∧ Rows13 wr lo S B nn m' (wayL now left (plL its)) ∧ Cells wr S #[.map (some B), .int .i64 n] ∧ wr.cell? ⟨XB, 0, none⟩ = some (.int .i64 now) ∧ Below w.heap.size w wr) (fun _ wr => wr.rangeLeft B r)
  case atStart => exact ⟨_, _, m, ⟨D, hrg3, hsay⟩, hR3, hC3, c3, k3⟩
  case round =>
    clear hrg3 hR3 hC3 c3 k3 hsay hrows
    obtain ⟨left, cnt, m', hW, hR, hC, hc, hbw⟩ := hrel
    obtain ⟨D', hrg, hsay⟩ := hW
    have hsz3 : r < wr.heap.size := hrg.lt
    have hcnt : wr.rangeLeft B r = cnt := hrg.left_eq
    go_wp2_with (first
      | (at_next; refine wpList_next_ranges _ rfl _ rfl 9 keyedS tokR Value.string (fun v : Value => v) (fun key l hk => by obtain ⟨s, e, _⟩ := keyS_inv hk; exact ⟨s, e⟩) (fun v _ _ => ⟨v, rfl⟩) B r nn D' left cnt rfl hrg ?_ ?_)
      | go_in)
    · intro _ hl0
      have hmap : Hid ((wayL now left (plL its)).map PIt.x = dueL now its) := by rw [Hid, wayL_none now left _ (fun s => hl0 _), hps]
      have hsub := wayL_sub now left (plL its)
      obtain ⟨L', hL'⟩ : ∃ L', L' = wayL now left (plL its) := ⟨_, rfl⟩
      rw [← hL'] at hR hmap hsub
      have hlen : L'.length ≤ n := by have := hsub.length_le; omega
      have l4 : wr.cell? ⟨S, 0, none⟩ = some (.map (some B)) := (hC.2 0).1
      have CTo := told_any wr S B nn m' L' (by omega) ((plL_inc its).sublist hsub) l4 hR.weak
      rw [hmap.out] at CTo
      obtain ⟨LL, hLL⟩ : ∃ LL, LL = dueL now its := ⟨_, rfl⟩
      have hLn : LL.length = L'.length := by rw [hLL, ← hmap.out, List.length_map]
      rw [← hLL, ← hLn] at CTo
      have hmem : ∀ y ∈ LL, y ∈ its := fun y hy => by rw [hLL] at hy; exact (List.mem_filter.1 hy).1
      rw [← hLn] at hlen
      replace hLL : Hid (LL = dueL now its) := hLL
      have lis : ∀ y ∈ LL, y.Lies w := fun y hy => li y (hmem y hy)
      have fits : ∀ y ∈ LL, y.n ≤ 1048576 := fun y hy => fit y (hmem y hy)
      clear hR hC hrg hsay hmem hLn hL' hsub hmap hl0 hcnt
      go_wp2_with (fail)
      refine CTo.mono ?_
      rintro e w5 ⟨g5, rfl, r5, b5⟩
      have k5 := below_on hbw b5
      have I5 := items_of_row r5 rfl
      obtain ⟨nL, hnL⟩ : ∃ nL, nL = LL.length := ⟨_, rfl⟩
      rw [← hnL] at I5 hlen ⊢
      have CC := copiedItems_own (some ⟨g5, 0, none⟩) nL nL LL w5 (by omega) hnL.symm I5 (fun y hy => (lis y hy).on k5) fits
      replace hnL : Hid (nL = LL.length) := hnL
      have z5 := k5.size
      clear CTo l4 r5
      go_wp2_with (fail)
      refine CC.mono ?_
      rintro e w7 ⟨p7, c7, A, rfl, o7, eA, b7⟩
      have k7 := below_on k5 b7
      clear CC
      go_wp2_with (fail)
      go_ret
      rw [← hLL.out, ← hnL.out]
      exact ⟨p7, c7, A, rfl, o7.wide z5 (Nat.le_refl _), eA, k7⟩
    · intro s v kl' yd yp w2 cnt2 hkey hlk hv hat hrg2 hlt2 hg2 hs2 hen
      obtain ⟨s', e1, rfl⟩ := keyS_inv hkey
      simp only [Value.string.injEq] at e1
      subst e1
      simp only [tokR, Option.some.injEq, Prod.mk.injEq] at hv
      obtain ⟨rfl, rfl⟩ := hv
      have hms := hsay.inv hat
      have hne : ofR s (wayL now left (plL its)) ≠ [] := fun e => by rw [hR.noRow s e] at hms; cases hms
      have hss : s.size ≤ 1048576 := by
        obtain ⟨z, hz⟩ := List.exists_mem_of_ne_nil _ hne
        obtain ⟨hz1, hz2⟩ := List.mem_filter.1 hz
        simp only [decide_eq_true_eq] at hz2
        rw [← hz2]
        exact hsz z.x (plL_mem ((wayL_sub now left (plL its)).subset hz1))
      have hW0 : RangeW wr B r nn m' left cnt := ⟨D', hrg, hsay⟩
      have W2 : RangeW w2 B r nn m' (fun x => left x && !x.sameKey (kl s)) cnt2 := ⟨D', hrg2, hsay⟩
      have hR2 : Rows13 w2 lo S B nn m' (wayL now left (plL its)) := hR.kept hg2 (fun e => hrg.ne (by cases e; rfl)) (fun y u hy e => by
        have hr := hR.row y
        rw [hy] at hr
        exact hW0.not_row hr e)
      have hC2 := hC.grown hg2 (fun e => hrS (by cases e; rfl))
      have hc2 : w2.cell? ⟨XB, 0, none⟩ = some (.int .i64 now) := by
        rw [World.cell?_of_block (w := wr) (hg2.block XB (World.block_lt_of_cell? wr _ hc) (fun e => hrX (by cases e; rfl)))]
        exact hc
      have hbw2 : Below w.heap.size w w2 := hbw.grown hg2 hbw.size (fun j hj => by cases hj; omega)
      have hlen : (wayL now left (plL its)).length ≤ n := by have := (wayL_sub now left (plL its)).length_le; omega
      have CD := dropR_any (fun y => decide (y.d < now)) 55 XB (fun W => W.cell? ⟨XB, 0, none⟩ = some (.int .i64 now)) (fun W W' k b => (b.cell (World.block_lt_of_cell? W _ k)).trans k)
        (fun GB z W hf k => drop1_due (fun y => decide (y.d < now)) XB GB (fun W => W.cell? ⟨XB, 0, none⟩ = some (.int .i64 now)) (fun W W' k b => (b.cell (World.block_lt_of_cell? W _ k)).trans k) (fun y W k => due1_any y XB now W k) z W hf k)
        w2 lo S B nn m' (wayL now left (plL its)) n s hss (by omega) (by omega) hC2 hS hR2 r _ cnt2 W2 (by rw [hms]; simp)
        (fun g W W' hg k gr => by
          rw [World.cell?_of_block (w := W) (gr.block XB (World.block_lt_of_cell? W _ k) (fun e => by simp only [Option.some.injEq] at e; omega))]
          exact k) hc2
      have hle : ¬ cnt2 ≥ cnt := by omega
      clear hR hC hc hrg hsay hrg2 hat hms hne hW0 W2 hR2 hC2 hc2 hg2 hbw hlen hss
      go_wp2_with (fail)
      refine CD.mono ?_
      rintro e w4 ⟨m4, left4, cnt4, rfl, hC4, hR4, hW4, hcl4, hly4, hls4, b4, hc4⟩
      have hst := wayL_step now left left4 (plL its) s hlk (hls4 (by simp [kl_same])) (fun y hy => by rw [hly4 y hy]; simp [kl_other hy])
      rw [hst] at hR4
      have k4 : Below w.heap.size w w4 := hbw2.trans (b4.mono (by omega))
      have hm4 : w4.rangeLeft B r = cnt4 := by obtain ⟨D4, h4, _⟩ := hW4; exact h4.left_eq
      clear CD hst hly4 hls4 b4 hbw2
      go_wp2_with (fail)
      go_roundw
      case rel => exact ⟨left4, cnt4, m4, hW4, hR4, hC4, hc4, k4⟩
      case measure => rw [hm4, hcnt]; omega

end Go.Proofs.Ytggbmpgpopenoaa
