/-
  FnExactSixes: what impl.Sixes answers. Conditions: at most 1048576 bytes.
-/
import Derived.RangeFuncBox
import Derived.Maps.AppendAt
import Derived.Test.YtkkaipeklbhliaaSixParts
import Derived.Test.YtkkaipeklbhliaaGroupOf
import Derived.Test.YtkkaipeklbhliaaRoundReg
namespace Go.Proofs.Ytkkaipeklbhliaa
open Go.RowKit Go.Shelf
set_option maxRecDepth 100000

attribute [local go_sem] Oper.semAt_some

theorem keeps_of_below {W W' : World} (h : Below W.heap.size W W') : KeepsOthers W W' := ⟨h.size, fun k _ hk _ => (h.block k (Array.getElem?_eq_some_iff.1 hk).1).trans hk⟩
theorem boxed_below {W W' : World} {B : Nat} {t : TypeId} {v : Value} (h : Boxed W B t v) (k : Below W.heap.size W W') : Boxed W' B t v := (k.block B h.lt).trans h
theorem two_of_boxed {W W' : World} {a b : Nat} {t u : TypeId} {x y : Value} (h : Boxed W a t x) (h' : Boxed W' a t x) (k : Boxed W b u y) (k' : Boxed W' b u y) : Two a b W W' := ⟨h'.trans h.symm, k'.trans k.symm⟩
theorem twoK_b {a b : Nat} {w : World} (ha : a < w.heap.size) (hb : b < w.heap.size) (W : World) (l : Nat) (o o' : Obj) (hl : w.heap.size ≤ l) (_ : W.heap[l]? = some o) (_ : o.isCells = false) (_ : o.isWalk = false) : Two a b W (W.putObj l o') :=
  ⟨World.putObj_heap_other (by omega), World.putObj_heap_other (by omega)⟩

set_option maxHeartbeats 4000000 in
theorem implSixes_any (p : Option Addr) (n c : Nat) (xs : List Int) (w : World) (hn : n ≤ 1048576) (hc : n ≤ c) (hx : xs.length = n) (h : BytesIn w p n xs) (hr : ∀ x ∈ xs, 0 ≤ x ∧ x < 256) :
    Calls Try.prog 9 #[.slice p n c] w fun e w' => e = .returned (.string (strOfNums (sixL xs))) ∧ Below w.heap.size w w' := by
  obtain ⟨i0, hi, hz0, hz1, hz2⟩ := info_parts infoByte
  obtain ⟨b, o, hp, hcell⟩ : ∃ b o, (0 < n → p = some ⟨b, o, none⟩) ∧ ∀ j, j < n → w.cell? ⟨b, o + j, none⟩ = some (.int .u8 (xs.getD j 0)) := by
    by_cases h0 : 0 < n
    · obtain ⟨b, o, e, k⟩ := h h0
      exact ⟨b, o, fun _ => e, k⟩
    · exact ⟨0, 0, fun k => absurd k h0, fun j hj => by omega⟩
  have hs1 : sixN n ≤ 1398102 := by unfold sixN; omega
  obtain ⟨w1, hm1, ho1, hg1⟩ := run_make_own (P := Try.prog) w w.heap.size 22 5 i0 (.int .u8 0) 1 Try.underlying22 hi hz0 hz1 .i64 .i64 (sixN n) (by rw [hz2]; omega) (by unfold maxLen; omega) (Nat.le_refl _)
  have hb1 : Below w.heap.size w w1 := (Below.refl _ w).grown hg1 (Nat.le_refl _) (fun k e => by cases e)
  have CS := fun X => signsFor_any n X (by omega)
  obtain ⟨m, hm⟩ : ∃ m, m = sixN n := ⟨_, rfl⟩
  rw [← hm] at hm1 ho1 CS hs1
  replace hm : Hid (m = sixN n) := hm
  clear hg1
  refine (callsIn_wide (n := 3)).1 ?_
  refine callsIn_of_wp_marks Try.func9 rfl trivial ?_ rfl
  simp only [Try.ntmps9, List.size_toArray, List.length_cons, List.length_nil, Nat.reduceAdd, Nat.reduceSub, Array.replicate_succ, Array.replicate_zero, List.push_toArray, List.append_toArray, List.nil_append, List.cons_append]
  gi_wp2_with (first | (refine ⟨trivial, ?_⟩; gi_at_call 23; refine (callsIn_wide.2 (CS _)).mono ?_; clear CS; rintro e w' ⟨rfl, he⟩; obtain rfl := he.symm; clear he) | (refine ⟨trivial, ?_⟩; gi_at_call 24; refine (callsIn_wide.2 (chunk_any _ _ _ _)).mono ?_; rintro e w' ⟨rfl, rfl⟩))
  obtain ⟨S, hS⟩ : ∃ S, S = w1.heap.size := ⟨_, rfl⟩
  have hS1 : w.heap.size + 1 ≤ S := by have := ho1.lt _ rfl; omega
  have d0 := Boxed.new w1 22 (.slice (some ⟨w.heap.size, 0, none⟩) 0 m)
  have d1 := Boxed.new (w1.alloc (.cells #[.slice (some ⟨w.heap.size, 0, none⟩) 0 m] 22)) 22 (.slice p n c)
  have d2 := Boxed.new ((w1.alloc (.cells #[.slice (some ⟨w.heap.size, 0, none⟩) 0 m] 22)).alloc (.cells #[.slice p n c] 22)) 3 (.int .i64 3)
  have hBl : Below w.heap.size w (((w1.alloc (.cells #[.slice (some ⟨w.heap.size, 0, none⟩) 0 m] 22)).alloc (.cells #[.slice p n c] 22)).alloc (.cells #[.int .i64 3] 3)) := ((hb1.alloc hb1.size _).alloc (by have := hb1.size; simp; omega) _).alloc (by have := hb1.size; simp; omega) _
  have hOl := ((ho1.alloc (.cells #[.slice (some ⟨w.heap.size, 0, none⟩) 0 m] 22)).alloc (.cells #[.slice p n c] 22)).alloc (.cells #[.int .i64 3] 3)
  replace d0 := (d0.alloc (.cells #[.slice p n c] 22)).alloc (.cells #[.int .i64 3] 3)
  replace d1 := d1.alloc (.cells #[.int .i64 3] 3)
  simp only [World.size_alloc, ← hS] at d0 d1 d2 ⊢
  have hSl : (((w1.alloc (.cells #[.slice (some ⟨w.heap.size, 0, none⟩) 0 m] 22)).alloc (.cells #[.slice p n c] 22)).alloc (.cells #[.int .i64 3] 3)).heap.size = S + 3 := by simp [hS]
  generalize ((w1.alloc (.cells #[.slice (some ⟨w.heap.size, 0, none⟩) 0 m] 22)).alloc (.cells #[.slice p n c] 22)).alloc (.cells #[.int .i64 3] 3) = Wl at d0 d1 d2 hBl hOl hSl ⊢
  replace hS : Hid (S = w1.heap.size) := hS
  clear ho1 hm1 hb1
  refine wpIn_rangeFunc_ownF rfl (by omega) (gf := 36) (lb := #[.pointer (some ⟨S + 1, 0, none⟩), .pointer (some ⟨S + 1 + 1, 0, none⟩)]) rfl trivial (enters_of Try.func36 (by kernel_rfl) rfl)
    (chunk_stops _ (by omega) (S + 1) (S + 1 + 1) b o n c Wl (by omega) (by omega) p hp d1.cell d2.cell hc hn) Two.trans (twoK_b (by omega) (by omega)) (Below.refl _ _) (fun _ => rfl)
    (fun pre W => ((∃ v, Boxed W S 22 v ∧ W.ownsRow w.heap.size 5 1 v (sxF n xs pre).length ((sxF n xs pre).map (Value.int .u8)) ∧ True) ∧ Boxed W (S + 1) 22 (.slice p n c) ∧ Boxed W (S + 1 + 1) 3 (.int .i64 3)) ∧ Below w.heap.size w W)
    (fun _ _ _ => False)
    (OwnFrom.and (OwnFrom.and (Go.Own.from (holdsRow_own w.heap.size S 22 5 1 (fun pre => (sxF n xs pre).length) (fun pre => (sxF n xs pre).map (Value.int .u8)) (fun _ _ => True)) _) (OwnFrom.and (Go.Own.from (boxed_own _ _ (fun _ => Value.slice p n c)) _) (Go.Own.from (boxed_own _ _ (fun _ => Value.int .i64 3)) _))) (ownFrom_below (Nat.le_refl _) (by omega)))
    (fun _ _ _ _ _ hs _ _ => hs)
    ⟨⟨⟨_, d0, hOl, trivial⟩, d1, d2⟩, hBl⟩
    (fun x => { tmps := #[.slice p n c, undef, .string ⟨#[]⟩, .pointer (some ⟨S, 0, none⟩), .slice (some ⟨b, o + 3 * x.1, none⟩) (ckM n x.1) (ckM n x.1), undef, .slice p n c, .int .i64 n, .int .i64 m, .slice (some ⟨w.heap.size, 0, none⟩) 0 m, .slice p n c, .func (.func 36) #[] #[.pointer (some ⟨S + 1, 0, none⟩), .pointer (some ⟨S + 1 + 1, 0, none⟩)], .slice (some ⟨b, o + 3 * x.1, none⟩) (ckM n x.1) (ckM n x.1), undef, undef, undef, undef, undef, undef, undef, undef, undef, undef], defers := [] }) ?assign ?body ?done ?stop
  case assign =>
    intro l x W K hK
    gi_wp2
    exact hK
  case body =>
    rintro l pre ⟨i, hik⟩ W ⟨⟨⟨v, hv, hrow, _⟩, hP, hN⟩, hB⟩ hlt
    have hsnoc := sxF_snoc n xs pre ⟨i, hik⟩
    dsimp only at hsnoc ⊢
    have hin : ∀ j, j < n → W.cell? ⟨b, o + j, none⟩ = some (.int .u8 (xs.getD j 0)) := fun j hj => by
      rw [hB.cell (p := ⟨b, o + j, none⟩) (World.block_lt_of_cell? w ⟨b, o + j, none⟩ (hcell j hj))]
      exact hcell j hj
    have hM := ckM_le n i
    have CG := groupOf_any (some ⟨b, o + 3 * i, none⟩) (ckM n i) (ckM n i) (prt3 n xs i) W hM (prt3_length hx hik) (part_in hx hik hin) (prt3_lt hr)
    have CS := fun X => signsFor_any (ckM n i) X (by omega)
    obtain ⟨k, hk⟩ : ∃ k, k = sixN (ckM n i) := ⟨_, rfl⟩
    have hk4 : k ≤ 4 := by rw [hk]; exact sxN_le n i
    have hGk := gP_part (prt3 n xs i) k hk4
    have hGl := gP_length (prt3 n xs i) k
    have hPe : sxP n xs i = sixT (prt3 n xs i) k := by unfold sxP; rw [hk]
    rw [← hPe] at hGk
    rw [← hk] at CG CS
    have hlen : (sxP n xs i).length = k := by rw [sxP_length, hk]
    generalize gP (prt3 n xs i) k = G at CG hGk hGl
    generalize sxP n xs i = P at hsnoc hGk hlen
    obtain ⟨M, hM'⟩ : ∃ M, M = ckM n i := ⟨_, rfl⟩
    rw [← hM'] at CG CS hM ⊢
    clear hPe hk hM' hin
    obtain ⟨g0, g1, g2, g3, rfl⟩ : ∃ g0 g1 g2 g3, G = [g0, g1, g2, g3] := by
      match G, hGl with
      | [g0, g1, g2, g3], _ => exact ⟨g0, g1, g2, g3, rfl⟩
    simp only [u8G, List.map] at CG
    have k0 : (0 : Int) ≤ (k : Int) := by omega
    have k4 : (k : Int) ≤ 4 := by omega
    have hfl := sxF_le n xs pre
    have hck : ckK n ≤ 349526 := by unfold ckK; omega
    generalize sxF n xs pre = F at hv hrow hsnoc hfl
    replace hsnoc : Hid (sxF n xs (pre ++ [⟨i, hik⟩]) = F ++ P) := hsnoc
    replace hlt : pre.length ≤ 349526 := by omega
    clear hcell hr hx h hs1 hck hm hGl
    obtain ⟨pv, cv, rfl⟩ := owns_form hrow
    gi_wp2_with (refine ⟨trivial, ?_⟩; gi_at_call 25; refine (CallsIn.inRound l (callsIn_wide.2 CG)).mono ?_; clear CG; rintro e W2 ⟨rfl, hb2⟩)
    have hz2' := hb2.size
    have hB2 : Below w.heap.size w W2 := hB.trans (hb2.mono hB.size)
    have v2 := boxed_below hv hb2
    have r2 := owns_below hrow hb2
    have hP2 := boxed_below hP hb2
    have hN2 := boxed_below hN hb2
    have q2 : KeepsOthers W W2 := keeps_of_below hb2
    have e2 : Below w.heap.size W W2 := hb2.mono hB.size
    clear hv hrow hb2
    have gm := GrpIs.made W2 g0 g1 g2 g3
    have hnews : ∀ j u, (P.map (Value.int .u8))[j]? = some u → (W2.alloc (.cells #[.int .u8 g0, .int .u8 g1, .int .u8 g2, .int .u8 g3] 40)).drew.cell? (Addr.add ⟨W2.heap.size, 0, none⟩ j) = some u := by
      intro j u hj
      have hjk : j < k := by
        have := (List.getElem?_eq_some_iff.1 hj).1
        simpa [hlen] using this
      have hc4 := gm.cell j (by omega)
      rw [← hGk, List.getElem?_map, List.getElem?_take] at hj
      simp only [hjk, if_true] at hj
      have e : ([g0, g1, g2, g3] : List Int)[j]? = some ([g0, g1, g2, g3].getD j 0) := by rw [List.getElem?_eq_getElem (by simp; omega), List.getD_eq_getElem?_getD, List.getElem?_eq_getElem (by simp; omega), Option.getD_some]
      rw [e] at hj
      simp only [Option.map_some, Option.some.injEq] at hj
      have ea : (⟨W2.heap.size, 0, none⟩ : Addr).add j = ⟨W2.heap.size, j, none⟩ := by by_cases h0 : j = 0 <;> simp [Addr.add, h0]
      rw [← hj, ea]
      exact hc4
    obtain ⟨v', w5, hrun, hown', hgrow, _⟩ := run_append_own_at (P := Try.prog) (w := (W2.alloc (.cells #[.int .u8 g0, .int .u8 g1, .int .u8 g2, .int .u8 g3] 40)).drew) w.heap.size 22 22 5 i0 (.int .u8 0) 1 1 Try.underlying22 hi hz0 hz1 hz2 rfl (by decide) _ _ _ (show World.ownsRow _ _ _ _ _ _ _ from r2.alloc (.cells #[.int .u8 g0, .int .u8 g1, .int .u8 g2, .int .u8 g3] 40)) ⟨W2.heap.size, 0, none⟩ k 4 (P.map (Value.int .u8)) (by simp [hlen]) hnews (by intro u hu; obtain ⟨x, _, rfl⟩ := List.mem_map.1 hu; rfl) (by unfold maxLen; omega) (by omega) (by have := hB2.size; simp; omega)
    obtain ⟨p', c', rfl⟩ := owns_form hown'
    rw [← List.map_append] at hown'
    obtain ⟨hv5, hv6, hr6, hk6, hb6⟩ := Boxed.appended (W := W2.drew) (tmp := .cells #[.int .u8 g0, .int .u8 g1, .int .u8 g2, .int .u8 g3] 40) v2 (by decide) r2 hB2.size (by omega) hown' hgrow
    have cd := (v2.alloc (.cells #[.int .u8 g0, .int .u8 g1, .int .u8 g2, .int .u8 g3] 40)).cell
    have ce : (W2.alloc (.cells #[.int .u8 g0, .int .u8 g1, .int .u8 g2, .int .u8 g3] 40)).drew.cell? ⟨S, 0, none⟩ = some (.slice pv F.length cv) := cd
    have c5 := hv5.cell
    have f5 := hv5.frozen
    have hP6 := (Boxed.kept (show Boxed (W2.alloc (.cells #[.int .u8 g0, .int .u8 g1, .int .u8 g2, .int .u8 g3] 40)).drew (S + 1) 22 (.slice p n c) from hP2.alloc (.cells #[.int .u8 g0, .int .u8 g1, .int .u8 g2, .int .u8 g3] 40)) hgrow (Boxed.not_row hP2 (by decide) r2)).other (show S + 1 ≠ S by omega) (.slice p' (F.length + k) c')
    have hN6 := (Boxed.kept (show Boxed (W2.alloc (.cells #[.int .u8 g0, .int .u8 g1, .int .u8 g2, .int .u8 g3] 40)).drew (S + 1 + 1) 3 (.int .i64 3) from hN2.alloc (.cells #[.int .u8 g0, .int .u8 g1, .int .u8 g2, .int .u8 g3] 40)) hgrow (Boxed.not_row hN2 (by decide) r2)).other (show S + 1 + 1 ≠ S by omega) (.slice p' (F.length + k) c')
    have hr7 : (w5.setCell ⟨S, 0, none⟩ (.slice p' (F.length + k) c')).ownsRow w.heap.size 5 1 (.slice p' (F.length + k) c') (sxF n xs (pre ++ [⟨i, hik⟩])).length ((sxF n xs (pre ++ [⟨i, hik⟩])).map (Value.int .u8)) := by rw [hsnoc.out, List.length_append, hlen]; exact hr6
    clear hgrow
    have hmx : Try.prog.follows .mixedOrders = true := by kernel_rfl
    refine region_round hmx (fun ⟨a, w, h⟩ => (by exact h)) (by kernel_rfl) ?_
    refine wpAny_take (i := 1) (v := .slice (some ⟨b, o + 3 * i, none⟩) M M) rfl (by kernel_rfl) (by kernel_rfl) (by kernel_rfl) (fun _ _ _ h => h) (Or.inl ⟨by rfl, fun w => by go_simp⟩) ?_
    simp only [Act.put, List.getElem_toArray, List.getElem_cons_zero, List.getElem_cons_succ, List.setIfInBounds_toArray, List.set_cons_zero, List.set_cons_succ]
    refine wpAny_take (i := 2) (v := .int .i64 M) rfl (by kernel_rfl) (by kernel_rfl) (by kernel_rfl) (fun _ _ _ h => h) (Or.inl ⟨by rfl, fun w => by go_simp⟩) ?_
    simp only [Act.put, List.getElem_toArray, List.getElem_cons_zero, List.getElem_cons_succ, List.setIfInBounds_toArray, List.set_cons_zero, List.set_cons_succ]
    refine wpAny_ready (rs := [0, 3]) (by kernel_rfl) (by simp) ?_
    refine AllReady.cons rfl (fun K hK => ?_) (AllReady.cons rfl (fun K hK => ?_) AllReady.nil)
    · go_simp
      refine hK _ _ ?_
      clear hK K
      (try simp only [Act.put, List.getElem_toArray, List.getElem_cons_zero, List.getElem_cons_succ, List.setIfInBounds_toArray, List.set_cons_zero, List.set_cons_succ])
      refine wpAny_ready (rs := [3]) (by kernel_rfl) (by simp) ?_
      refine AllReady.cons rfl (fun K hK => ?_) AllReady.nil
      go_simp
      refine (CS _).mono ?_
      rintro e w' ⟨rfl, he⟩
      obtain rfl := he.symm
      clear he
      refine hK _ _ ?_
      clear hK K
      (try simp only [Act.put, List.getElem_toArray, List.getElem_cons_zero, List.getElem_cons_succ, List.setIfInBounds_toArray, List.set_cons_zero, List.set_cons_succ])
      refine wpAny_take (i := 4) (v := .slice (some ⟨W2.heap.size, 0, none⟩) k 4) rfl (by kernel_rfl) (by kernel_rfl) (by kernel_rfl) (fun _ _ _ h => h) (Or.inl ⟨by rfl, fun w => by go_simp⟩) ?_
      simp only [Act.put, List.getElem_toArray, List.getElem_cons_zero, List.getElem_cons_succ, List.setIfInBounds_toArray, List.set_cons_zero, List.set_cons_succ]
      refine wpAny_ready (rs := [5]) (by kernel_rfl) (by simp) ?_
      refine AllReady.cons rfl (fun K hK => ?_) AllReady.nil
      refine step_append_known rfl (.tmp 15) (.tmp 19) 22 rfl rfl rfl hrun ?_
      refine hK _ _ ?_
      clear hK K
      (try simp only [Act.put, List.getElem_toArray, List.getElem_cons_zero, List.getElem_cons_succ, List.setIfInBounds_toArray, List.set_cons_zero, List.set_cons_succ])
      refine wpAny_ready (rs := [6]) (by kernel_rfl) (by simp) ?_
      refine AllReady.cons rfl (fun K hK => ?_) AllReady.nil
      go_simp
      refine hK _ _ ?_
      clear hK K
      (try simp only [Act.put, List.getElem_toArray, List.getElem_cons_zero, List.getElem_cons_succ, List.setIfInBounds_toArray, List.set_cons_zero, List.set_cons_succ])
      refine wpAny_done (by kernel_rfl) ?_ _
      exact ⟨q2.trans ((KeepsOthers.drew W2).trans hk6), two_of_boxed hP hP6 hN hN6, ⟨⟨_, hv6, hr7, trivial⟩, hP6, hN6⟩, hB2.drew.trans hb6⟩
    · go_simp
      refine (CS _).mono ?_
      rintro e w' ⟨rfl, he⟩
      obtain rfl := he.symm
      clear he
      refine hK _ _ ?_
      clear hK K
      (try simp only [Act.put, List.getElem_toArray, List.getElem_cons_zero, List.getElem_cons_succ, List.setIfInBounds_toArray, List.set_cons_zero, List.set_cons_succ])
      refine wpAny_take (i := 4) (v := .slice (some ⟨W2.heap.size, 0, none⟩) k 4) rfl (by kernel_rfl) (by kernel_rfl) (by kernel_rfl) (fun _ _ _ h => h) (Or.inl ⟨by rfl, fun w => by go_simp⟩) ?_
      simp only [Act.put, List.getElem_toArray, List.getElem_cons_zero, List.getElem_cons_succ, List.setIfInBounds_toArray, List.set_cons_zero, List.set_cons_succ]
      refine wpAny_ready (rs := [0]) (by kernel_rfl) (by simp) ?_
      refine AllReady.cons rfl (fun K hK => ?_) AllReady.nil
      go_simp
      refine hK _ _ ?_
      clear hK K
      (try simp only [Act.put, List.getElem_toArray, List.getElem_cons_zero, List.getElem_cons_succ, List.setIfInBounds_toArray, List.set_cons_zero, List.set_cons_succ])
      refine wpAny_ready (rs := [5]) (by kernel_rfl) (by simp) ?_
      refine AllReady.cons rfl (fun K hK => ?_) AllReady.nil
      refine step_append_known rfl (.tmp 15) (.tmp 19) 22 rfl rfl rfl hrun ?_
      refine hK _ _ ?_
      clear hK K
      (try simp only [Act.put, List.getElem_toArray, List.getElem_cons_zero, List.getElem_cons_succ, List.setIfInBounds_toArray, List.set_cons_zero, List.set_cons_succ])
      refine wpAny_ready (rs := [6]) (by kernel_rfl) (by simp) ?_
      refine AllReady.cons rfl (fun K hK => ?_) AllReady.nil
      go_simp
      refine hK _ _ ?_
      clear hK K
      (try simp only [Act.put, List.getElem_toArray, List.getElem_cons_zero, List.getElem_cons_succ, List.setIfInBounds_toArray, List.set_cons_zero, List.set_cons_succ])
      refine wpAny_done (by kernel_rfl) ?_ _
      exact ⟨q2.trans ((KeepsOthers.drew W2).trans hk6), two_of_boxed hP hP6 hN hN6, ⟨⟨_, hv6, hr7, trivial⟩, hP6, hN6⟩, hB2.drew.trans hb6⟩
  case done =>
    rintro D ys W hD rfl ⟨⟨⟨v, hv, hrow, _⟩, hP, hN⟩, hB⟩ hK
    rw [sxF_all hx] at hrow
    obtain ⟨pv, cv, rfl⟩ := owns_form hrow
    have hc4 := hv.cell
    have g := text_of (P := Try.prog) (owns_in hrow) (owns_len hrow) cv 22 5 9 Try.underlying22 Try.underlying5 Try.underlying9
    have hBD := hB.trans (belowK_b (w := w) (Nat.le_refl _) W D (.deferred (some [])) (.deferred none) (by omega) hK rfl rfl)
    clear hr hx h hcell hrow hP hN hm
    gi_wp2
    refine ⟨by simp, .inl ⟨_, _, rfl, run_takeDeferred hK, ?_⟩⟩
    exact ⟨_, results_tmp rfl _ _ _, rfl, hBD⟩
  case stop =>
    rintro D c pre W _ _ h _
    exact h.elim

end Go.Proofs.Ytkkaipeklbhliaa
