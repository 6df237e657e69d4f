/-
  What the specification answers of a line's bytes. Conditions: lengths that a law hands over, bytes that lie there.
-/
import Derived.Test.YtelfejgpphoifaaDoorLineL
import Derived.Test.YtelfejgpphoifaaDoorMakeB
namespace Go.Proofs.YtelfejgpphoifaaDoor
open Go.RowKit
set_option maxRecDepth 100000

theorem cells_under {w w' : World} {g B : Nat} {A : Array Value} (h : Cells w g A) (b : Below B w w') (hg : g < B) : Cells w' g A :=
  ⟨Nat.lt_of_lt_of_le h.1 b.size, fun i => ⟨(World.cell?_of_block (w := w) (b.block g hg)).trans (h.2 i).1, (World.frozen?_of_block (w := w) (b.block g hg)).trans (h.2 i).2⟩⟩
theorem in_lt {w : World} {p : Option Addr} {n : Nat} {xs : List Int} (h : BytesIn w p n xs) : ∀ b o, p = some ⟨b, o, none⟩ → 0 < n → b < w.heap.size := fun b o e hn => by
  obtain ⟨b', o', e', hc⟩ := h hn
  rw [e] at e'
  cases e'
  exact World.block_lt_of_cell? w ⟨b, o + 0, none⟩ (hc 0 hn)
theorem in_low {w w' : World} {p : Option Addr} {n B : Nat} {xs : List Int} (h : BytesIn w p n xs) (b : Below B w w') (hp : ∀ b o, p = some ⟨b, o, none⟩ → 0 < n → b < B) : BytesIn w' p n xs := fun hn => by
  obtain ⟨b', o', e', hc⟩ := h hn
  exact ⟨b', o', e', fun i hi => (World.cell?_of_block (w := w) (b.block b' (hp b' o' e' hn))).trans (hc i hi)⟩
theorem owns_top {w : World} {base e n c : Nat} {p : Option Addr} {xs : List Value} (h : w.ownsRow base e 1 (.slice p n c) n xs) : ∀ k, (Value.slice p n c).ownBlock = some k → k < w.heap.size := fun k hk => by
  rcases h.2 with ⟨hv, _⟩ | ⟨g, cap, cur, hv, _, hg, _⟩
  · simp only [Value.slice.injEq] at hv
    rw [hv.1] at hk
    cases hk
  · simp only [Value.slice.injEq] at hv
    rw [hv.1] at hk
    have e : k = g := by simpa [Value.ownBlock] using hk.symm
    rw [e]
    exact (Array.getElem?_eq_some_iff.1 hg).1

set_option maxHeartbeats 16000000 in
theorem specLineBytes_any (kd : Int) (s : ByteArray) (t d : Int) (p : Option Addr) (n c : Nat) (xs : List Int) (w : World) (hs : s.size ≤ 1048576) (hn : n ≤ 1048576) (hx : xs.length = n) (h : BytesIn w p n xs) :
    Calls Tryd.prog 15 #[.agg #[.int .i64 kd, .string s, .int .i64 t, .int .i64 d, .slice p n c]] w fun z w' => ∃ p' c', z = .returned (.slice p' (lineN kd s t d n) c') ∧ Own 5 w' w.heap.size w'.heap.size (.slice p' (lineN kd s t d n) c') (lineN kd s t d n) (lineL kd s t d n xs) ∧ Below w.heap.size w w' := by
  obtain ⟨i0, hi, hz0, hz1, hz2⟩ := info_parts infoByte
  obtain ⟨W, hW⟩ : ∃ W, W = w.alloc (.cells #[.int .i64 kd, .string s, .int .i64 t, .int .i64 d, .slice p n c] 24) := ⟨_, rfl⟩
  have kA : Below w.heap.size w W := by rw [hW]; exact made_below _ _ (Below.refl _ _)
  have CB : Cells W w.heap.size #[.int .i64 kd, .string s, .int .i64 t, .int .i64 d, .slice p n c] := by rw [hW]; exact Cells.made _ _ _
  replace hW : Hid (w.alloc (.cells #[.int .i64 kd, .string s, .int .i64 t, .int .i64 d, .slice p n c] 24) = W) := hW.symm
  have c0 : W.cell? ⟨w.heap.size, 0, none⟩ = some (.int .i64 kd) := (CB.2 0).1
  have c1 : W.cell? ⟨w.heap.size, 1, none⟩ = some (.string s) := (CB.2 1).1
  have c2 : W.cell? ⟨w.heap.size, 2, none⟩ = some (.int .i64 t) := (CB.2 2).1
  have c3 : W.cell? ⟨w.heap.size, 3, none⟩ = some (.int .i64 d) := (CB.2 3).1
  have c4 : W.cell? ⟨w.heap.size, 4, none⟩ = some (.slice p n c) := (CB.2 4).1
  have hh := in_below h kA
  have CO := fun X (hX : BytesIn X p n xs) => specLineOk_any kd s t d p n c xs X hs hn hx hX
  cases hB : lnB kd s t d n
  · have e1 : lineN kd s t d n = 0 := by unfold lineN; rw [hB]; rfl
    have e2 : lineL kd s t d n xs = [] := by unfold lineL; rw [hB]; rfl
    rw [hB] at CO
    rw [e1, e2]
    clear hB e1 e2 h
    go_enter Tryd.func15, Tryd.ntmps15
    go_wp2_with (rw [hW.out])
    refine (CO _ hh).mono ?_
    rintro z w1 ⟨rfl, b1⟩
    have k1 := below_on kA b1
    go_wp2_with (fail)
    go_ret
    exact ⟨_, _, rfl, ⟨⟨rfl, .inr ⟨w1.heap.size, 0, #[], rfl, k1.size, heap_made _ _, Nat.le_refl _, Nat.zero_le _, rfl, rfl⟩⟩, fun k hk => by cases hk; simp⟩, below_allocI k1 _⟩
  · have e1 : lineN kd s t d n = 18 + n := by unfold lineN; rw [hB]; rfl
    have e2 : lineL kd s t d n xs = lyL kd s t d n xs ++ (fitL ((16 + n : Nat) : Int) 2).reverse := by unfold lineL; rw [hB]; rfl
    obtain ⟨fk, ft, fd, fn, fr, fe⟩ := lnB_facts hB
    have hRl := rtL_len fr
    rw [hB] at CO
    obtain ⟨TN, hTN⟩ : ∃ TN, TN = 18 + n := ⟨_, rfl⟩
    obtain ⟨TL, hTL⟩ : ∃ TL, TL = lyL kd s t d n xs ++ (fitL ((16 + n : Nat) : Int) 2).reverse := ⟨_, rfl⟩
    rw [e1, e2, ← hTN, ← hTL]
    replace hTN : Hid (TN = 18 + n) := hTN
    unfold lyL at hTL
    replace hTL : Hid _ := hTL
    have G4 := fun X => specGreat_any d 4 X (by omega)
    rw [fit_four d fd.1] at G4
    have G2 := fun X => specGreat_any (n : Int) 2 X (by omega)
    rw [fit_two (n : Int) (by omega)] at G2
    have GT : ∀ (N5 : Nat), N5 = 16 + n → ∀ X, Calls Tryd.prog 22 #[.int .i64 (N5 : Int), .int .i64 2] X fun e w' => ∃ p c, e = .returned (.slice p 2 c) ∧ Own 5 w' X.heap.size w'.heap.size (.slice p 2 c) 2 (fitL ((16 + n : Nat) : Int) 2).reverse ∧ Below X.heap.size X w' := fun N5 e X => by
      have := specGreat_any (N5 : Int) 2 X (by omega)
      rw [fit_two (N5 : Int) (by omega), e] at this
      rw [e]
      exact this
    generalize (fitL ((16 + n : Nat) : Int) 2).reverse = FT at GT hTL
    generalize (fitL d 4).reverse = FD at G4 hTL
    generalize (fitL (n : Int) 2).reverse = FN at G2 hTL
    have hwk : IntKind.u8.wrap kd = kd := by rw [IntKind.wrap_u8]; omega
    have hwt : IntKind.u8.wrap t = t := by rw [IntKind.wrap_u8]; omega
    have CU := fun X => specUnhex_any s X hs
    go_enter Tryd.func15, Tryd.ntmps15
    go_wp2_with (rw [hW.out])
    refine (CO _ hh).mono ?_
    rintro z v1 ⟨rfl, b1⟩
    have kv1 := below_on kA b1
    replace hh := in_below hh b1
    replace CB := CB.on b1
    clear c0 c1 c2 c3 c4 CO b1 e1 e2 hB h
    have c1 : v1.cell? ⟨w.heap.size, 1, none⟩ = some (.string s) := (CB.2 1).1
    go_wp2_with (fail)
    refine (CU _).mono ?_
    rintro z v2 ⟨pu, cu, rfl, ru, b2⟩
    have kv2 := below_on kv1 b2
    replace hh := in_below hh b2
    replace CB := CB.on b2
    clear c1 CU b2
    have c0' : v2.cell? ⟨w.heap.size, 0, none⟩ = some (.int .i64 kd) := (CB.2 0).1
    rcases (show kd = 3 ∨ kd ≠ 3 by omega) with h3 | h3
    · obtain ⟨RL, hRL⟩ : ∃ RL, RL = rtL kd s := ⟨_, rfl⟩
      rw [← hRL] at hRl
      have hTL' := hTL.out
      rw [← hRL] at hTL'
      replace hTL : Hid _ := hTL'
      clear hTL'
      have hr0 : RL = List.replicate 8 0 := by rw [hRL, rtL, if_pos h3]
      have mk8 : ∀ W, (Instr.makeSlice 22 (.int .i64 8) (.int .i64 8)).run Tryd.prog W = .ok (.slice (some ⟨W.heap.size, 0, none⟩) 8 8) (W.alloc (.cells (madeCells #[.int .u8 0] 8) 5)) := fun W => makeB 8 (by omega) W
      obtain ⟨v, hv⟩ : ∃ X, X = v2.alloc (.cells (madeCells #[.int .u8 0] 8) 5) := ⟨_, rfl⟩
      have b3 : Below v2.heap.size v2 v := by rw [hv]; exact made_below _ _ (Below.refl _ _)
      have ho8 := madeB_own v2 v2.heap.size 8 (Nat.le_refl _) (by omega)
      rw [← hv] at ho8
      rw [← hr0] at ho8
      have hR8 : BytesIn v (some ⟨v2.heap.size, 0, none⟩) 8 RL := (Own.of ho8).bytes
      have kv := below_on kv2 b3
      replace hh := in_below hh b3
      replace CB := CB.on b3
      replace hv : Hid (v2.alloc (.cells (madeCells #[.int .u8 0] 8) 5) = v) := hv.symm
      have h3' : (kd == 3) = true := by simp [h3]
      clear hRL hr0 h3 fr fe ru b3 fk ho8
      obtain ⟨V0, hV0⟩ : ∃ V0, V0 = v.heap.size := ⟨_, rfl⟩
      obtain ⟨V1, hV1⟩ : ∃ X, X = v.alloc (.cells #[.int .u8 kd] 5) := ⟨_, rfl⟩
      have d1 : Below V0 v V1 := by rw [hV1, hV0]; exact made_below _ _ (Below.refl _ _)
      have ho0 : V1.ownsRow V0 5 1 (.slice (some ⟨v.heap.size, 0, none⟩) 1 1) 1 (([kd] : List Int).map (Value.int .u8)) := by rw [hV1, hV0]; exact ⟨rfl, .inr ⟨v.heap.size, 1, #[.int .u8 kd], rfl, Nat.le_refl _, heap_made _ _, Nat.le_refl _, by unfold maxLen; omega, rfl, rfl⟩⟩
      replace hV1 : Hid (v.alloc (.cells #[.int .u8 kd] 5) = V1) := hV1.symm
      have hBv : w.heap.size < V0 := by rw [hV0]; exact CB.1
      have hpv : ∀ b o, p = some ⟨b, o, none⟩ → 0 < n → b < V0 := by rw [hV0]; exact in_lt hh
      have hin0 : BytesIn V1 (some ⟨v2.heap.size, 0, none⟩) 8 RL := in_below hR8 (by rw [← hV0]; exact d1)
      have s1 : V0 ≤ V1.heap.size := by have := d1.size; omega
      have hwV : w.heap.size ≤ V0 := by rw [hV0]; exact kv.size
      have kV : Below w.heap.size w V1 := kv.trans (d1.mono hwV)
      have c0 : v.cell? ⟨w.heap.size, 0, none⟩ = some (.int .i64 kd) := (CB.2 0).1
      replace hV0 : Hid (V0 = v.heap.size) := hV0
      replace CB := cells_under CB d1 hBv
      replace hh := in_low hh d1 hpv
      go_wp2_with (first | rw [hv.out] | rw [hV1.out] | rw [hV2.out] | (at_builtin; refine list_spreadA hi hz0 hz1 hz2 _ _ 22 Tryd.underlying22 ho1 i2 rfl (by omega) (by omega) (by omega) (by rfl) (by rfl) (by rfl) (by rfl) ?_; intro p2 q2 w2 ho2 hb2; obtain ⟨N2, hN2⟩ := hid_ex (N1 + 1); rw [← hN2.out] at ho2 ⊢; obtain ⟨L2, hL2⟩ : ∃ L, L = L1 ++ [t] := ⟨_, rfl⟩; rw [← hL2] at ho2; replace hL2 : Hid (L2 = L1 ++ [t]) := hL2; have m2 : N2 ≤ 10 := Nat.le_trans (Nat.le_of_eq hN2.out) (by omega); have z2 := hb2.size; replace CB := cells_under CB hb2 hBv; replace hh := in_low hh hb2 hpv; have c3_2 : w2.cell? ⟨w.heap.size, 3, none⟩ = some (.int .i64 d) := (CB.2 3).1) | (at_builtin; refine list_spreadA hi hz0 hz1 hz2 _ _ 22 Tryd.underlying22 ho0 hin0 hRl (by omega) (by omega) (by omega) (by rfl) (by rfl) (by rfl) (by rfl) ?_; intro p1 q1 w1 ho1 hb1; obtain ⟨N1, hN1⟩ := hid_ex (1 + 8); rw [← hN1.out] at ho1 ⊢; obtain ⟨L1, hL1⟩ : ∃ L, L = [kd] ++ RL := ⟨_, rfl⟩; rw [← hL1] at ho1; replace hL1 : Hid (L1 = [kd] ++ RL) := hL1; have m1 : N1 ≤ 9 := Nat.le_trans (Nat.le_of_eq hN1.out) (by omega); have z1 := hb1.size; replace CB := cells_under CB hb1 hBv; replace hh := in_low hh hb1 hpv; have c2_1 : w1.cell? ⟨w.heap.size, 2, none⟩ = some (.int .i64 t) := (CB.2 2).1; obtain ⟨V2, hV2⟩ : ∃ X, X = w1.alloc (.cells #[.int .u8 t] 5) := ⟨_, rfl⟩; have d2 : Below w1.heap.size w1 V2 := made_eq hV2; have i2 : BytesIn V2 (some ⟨w1.heap.size, 0, none⟩) 1 [t] := in_byte_eq hV2; replace hV2 : Hid (w1.alloc (.cells #[.int .u8 t] 5) = V2) := hV2.symm; replace ho1 := owns_below ho1 d2; have y2 := d2.size; have g2 : Below V0 w1 V2 := d2.mono (by omega); replace CB := cells_under CB g2 hBv; replace hh := in_low hh g2 hpv))
      have k1 := kV.trans (hb1.mono hwV)
      have k2 := (k1.trans (g2.mono hwV)).trans (hb2.mono hwV)
      clear hV1 hV2 ho0 ho1 hin0 hR8 c0 i2 d2 c2_1
      refine (G4 _).mono ?_
      rintro e x3 ⟨pg3, cg3, rfl, rg3, d3⟩
      have y3 := d3.size
      have g3 : Below V0 w2 x3 := d3.mono (by omega)
      replace ho2 := owns_below ho2 d3
      have i3 := rg3.bytes
      have j3 := rg3.len
      replace CB := cells_under CB g3 hBv
      replace hh := in_low hh g3 hpv
      go_wp2_with ((at_builtin; refine list_spreadA hi hz0 hz1 hz2 _ _ 22 Tryd.underlying22 ho2 i3 j3 (by omega) (by omega) (by omega) (by rfl) (by rfl) (by rfl) (by rfl) ?_; intro p3 q3 w3 ho3 hb3; obtain ⟨N3, hN3⟩ := hid_ex (N2 + 4); rw [← hN3.out] at ho3 ⊢; obtain ⟨L3, hL3⟩ : ∃ L, L = L2 ++ FD := ⟨_, rfl⟩; rw [← hL3] at ho3; replace hL3 : Hid (L3 = L2 ++ FD) := hL3; have m3 : N3 ≤ 14 := Nat.le_trans (Nat.le_of_eq hN3.out) (by omega); have z3 := hb3.size; replace CB := cells_under CB hb3 hBv; replace hh := in_low hh hb3 hpv; have c4_3 : w3.cell? ⟨w.heap.size, 4, none⟩ = some (.slice p n c) := (CB.2 4).1))
      have k3 := (k2.trans (g3.mono hwV)).trans (hb3.mono hwV)
      clear ho2 i3 j3 rg3 d3 c3_2
      refine (G2 _).mono ?_
      rintro e x4 ⟨pg4, cg4, rfl, rg4, d4⟩
      have y4 := d4.size
      have g4 : Below V0 w3 x4 := d4.mono (by omega)
      replace ho3 := owns_below ho3 d4
      have i4 := rg4.bytes
      have j4 := rg4.len
      replace CB := cells_under CB g4 hBv
      replace hh := in_low hh g4 hpv
      go_wp2_with (first | (at_builtin; refine list_spreadA hi hz0 hz1 hz2 _ _ 22 Tryd.underlying22 ho4 hh hx (by omega) (by omega) (by omega) (by rfl) (by rfl) (by rfl) (by rfl) ?_; intro p5 q5 w5 ho5 hb5; obtain ⟨N5, hN5⟩ := hid_ex (N4 + n); rw [← hN5.out] at ho5 ⊢; obtain ⟨L5, hL5⟩ : ∃ L, L = L4 ++ xs := ⟨_, rfl⟩; rw [← hL5] at ho5; replace hL5 : Hid (L5 = L4 ++ xs) := hL5; have m5 : N5 ≤ 1576 := Nat.le_trans (Nat.le_of_eq hN5.out) (by omega); have z5 := hb5.size; replace CB := cells_under CB hb5 hBv; replace hh := in_low hh hb5 hpv) | (at_builtin; refine list_spreadA hi hz0 hz1 hz2 _ _ 22 Tryd.underlying22 ho3 i4 j4 (by omega) (by omega) (by omega) (by rfl) (by rfl) (by rfl) (by rfl) ?_; intro p4 q4 w4 ho4 hb4; obtain ⟨N4, hN4⟩ := hid_ex (N3 + 2); rw [← hN4.out] at ho4 ⊢; obtain ⟨L4, hL4⟩ : ∃ L, L = L3 ++ FN := ⟨_, rfl⟩; rw [← hL4] at ho4; replace hL4 : Hid (L4 = L3 ++ FN) := hL4; have m4 : N4 ≤ 16 := Nat.le_trans (Nat.le_of_eq hN4.out) (by omega); have z4 := hb4.size; replace CB := cells_under CB hb4 hBv; replace hh := in_low hh hb4 hpv; have c4_4 : w4.cell? ⟨w.heap.size, 4, none⟩ = some (.slice p n c) := (CB.2 4).1))
      have k4 := (k3.trans (g4.mono hwV)).trans (hb4.mono hwV)
      have k5 := k4.trans (hb5.mono hwV)
      clear ho3 ho4 i4 j4 rg4 d4 c4_3 c4_4
      have hN5e : N5 = 16 + n := by rw [hN5.out, hN4.out, hN3.out, hN2.out, hN1.out]
      have GT5 := GT N5 hN5e
      replace hN5e : Hid _ := hN5e
      refine (GT5 _).mono ?_
      rintro e x6 ⟨pg6, cg6, rfl, rg6, d6⟩
      have y6 := d6.size
      have g6 : Below V0 w5 x6 := d6.mono (by omega)
      replace ho5 := owns_below ho5 d6
      have i6 := rg6.bytes
      have j6 := rg6.len
      replace CB := cells_under CB g6 hBv
      replace hh := in_low hh g6 hpv
      go_wp2_with ((at_builtin; refine list_spreadA hi hz0 hz1 hz2 _ _ 22 Tryd.underlying22 ho5 i6 j6 (by omega) (by omega) (by omega) (by rfl) (by rfl) (by rfl) (by rfl) ?_; intro p6 q6 w6 ho6 hb6; obtain ⟨N6, hN6⟩ := hid_ex (N5 + 2); rw [← hN6.out] at ho6 ⊢; obtain ⟨L6, hL6⟩ : ∃ L, L = L5 ++ FT := ⟨_, rfl⟩; rw [← hL6] at ho6; replace hL6 : Hid (L6 = L5 ++ FT) := hL6; have m6 : N6 ≤ 1578 := Nat.le_trans (Nat.le_of_eq hN6.out) (by omega); have z6 := hb6.size; replace CB := cells_under CB hb6 hBv; replace hh := in_low hh hb6 hpv))
      have k6 := (k5.trans (g6.mono hwV)).trans (hb6.mono hwV)
      have hL : L6 = TL := by rw [hTL.out, hL6.out, hL5.out, hL4.out, hL3.out, hL2.out, hL1.out]
      have hNe : N6 = TN := by rw [hN6.out, hN5e.out, hTN.out]; omega
      rw [hL] at ho6
      subst hNe
      go_ret
      exact ⟨_, _, rfl, ⟨owns_mono ho6 hwV, owns_top ho6⟩, k6⟩
    · obtain ⟨RL, hRL⟩ : ∃ RL, RL = rtL kd s := ⟨_, rfl⟩
      rw [← hRL] at hRl
      have hTL' := hTL.out
      rw [← hRL] at hTL'
      replace hTL : Hid _ := hTL'
      clear hTL'
      have hr0 : RL = unL s := by rw [hRL, rtL, if_neg h3]
      rw [fr h3, ← hr0] at ru
      rw [fr h3]
      have h3' : (kd == 3) = false := by simp [h3]
      have hR8 := ru.bytes
      clear hRL hr0 h3 fr fe ru fk
      obtain ⟨pr, hpr⟩ : ∃ pr, pr = pu := ⟨_, rfl⟩
      obtain ⟨v, hv⟩ : ∃ v, v = v2 := ⟨_, rfl⟩
      have kv := kv2
      subst hpr
      subst hv
      clear c0'
      obtain ⟨V0, hV0⟩ : ∃ V0, V0 = v.heap.size := ⟨_, rfl⟩
      obtain ⟨V1, hV1⟩ : ∃ X, X = v.alloc (.cells #[.int .u8 kd] 5) := ⟨_, rfl⟩
      have d1 : Below V0 v V1 := by rw [hV1, hV0]; exact made_below _ _ (Below.refl _ _)
      have ho0 : V1.ownsRow V0 5 1 (.slice (some ⟨v.heap.size, 0, none⟩) 1 1) 1 (([kd] : List Int).map (Value.int .u8)) := by rw [hV1, hV0]; exact ⟨rfl, .inr ⟨v.heap.size, 1, #[.int .u8 kd], rfl, Nat.le_refl _, heap_made _ _, Nat.le_refl _, by unfold maxLen; omega, rfl, rfl⟩⟩
      replace hV1 : Hid (v.alloc (.cells #[.int .u8 kd] 5) = V1) := hV1.symm
      have hBv : w.heap.size < V0 := by rw [hV0]; exact CB.1
      have hpv : ∀ b o, p = some ⟨b, o, none⟩ → 0 < n → b < V0 := by rw [hV0]; exact in_lt hh
      have hin0 : BytesIn V1 pr 8 RL := in_below hR8 (by rw [← hV0]; exact d1)
      have s1 : V0 ≤ V1.heap.size := by have := d1.size; omega
      have hwV : w.heap.size ≤ V0 := by rw [hV0]; exact kv.size
      have kV : Below w.heap.size w V1 := kv.trans (d1.mono hwV)
      have c0 : v.cell? ⟨w.heap.size, 0, none⟩ = some (.int .i64 kd) := (CB.2 0).1
      replace hV0 : Hid (V0 = v.heap.size) := hV0
      replace CB := cells_under CB d1 hBv
      replace hh := in_low hh d1 hpv
      go_wp2_with (first | rw [hV1.out] | rw [hV2.out] | (at_builtin; refine list_spreadA hi hz0 hz1 hz2 _ _ 22 Tryd.underlying22 ho1 i2 rfl (by omega) (by omega) (by omega) (by rfl) (by rfl) (by rfl) (by rfl) ?_; intro p2 q2 w2 ho2 hb2; obtain ⟨N2, hN2⟩ := hid_ex (N1 + 1); rw [← hN2.out] at ho2 ⊢; obtain ⟨L2, hL2⟩ : ∃ L, L = L1 ++ [t] := ⟨_, rfl⟩; rw [← hL2] at ho2; replace hL2 : Hid (L2 = L1 ++ [t]) := hL2; have m2 : N2 ≤ 10 := Nat.le_trans (Nat.le_of_eq hN2.out) (by omega); have z2 := hb2.size; replace CB := cells_under CB hb2 hBv; replace hh := in_low hh hb2 hpv; have c3_2 : w2.cell? ⟨w.heap.size, 3, none⟩ = some (.int .i64 d) := (CB.2 3).1) | (at_builtin; refine list_spreadA hi hz0 hz1 hz2 _ _ 22 Tryd.underlying22 ho0 hin0 hRl (by omega) (by omega) (by omega) (by rfl) (by rfl) (by rfl) (by rfl) ?_; intro p1 q1 w1 ho1 hb1; obtain ⟨N1, hN1⟩ := hid_ex (1 + 8); rw [← hN1.out] at ho1 ⊢; obtain ⟨L1, hL1⟩ : ∃ L, L = [kd] ++ RL := ⟨_, rfl⟩; rw [← hL1] at ho1; replace hL1 : Hid (L1 = [kd] ++ RL) := hL1; have m1 : N1 ≤ 9 := Nat.le_trans (Nat.le_of_eq hN1.out) (by omega); have z1 := hb1.size; replace CB := cells_under CB hb1 hBv; replace hh := in_low hh hb1 hpv; have c2_1 : w1.cell? ⟨w.heap.size, 2, none⟩ = some (.int .i64 t) := (CB.2 2).1; obtain ⟨V2, hV2⟩ : ∃ X, X = w1.alloc (.cells #[.int .u8 t] 5) := ⟨_, rfl⟩; have d2 : Below w1.heap.size w1 V2 := made_eq hV2; have i2 : BytesIn V2 (some ⟨w1.heap.size, 0, none⟩) 1 [t] := in_byte_eq hV2; replace hV2 : Hid (w1.alloc (.cells #[.int .u8 t] 5) = V2) := hV2.symm; replace ho1 := owns_below ho1 d2; have y2 := d2.size; have g2 : Below V0 w1 V2 := d2.mono (by omega); replace CB := cells_under CB g2 hBv; replace hh := in_low hh g2 hpv))
      have k1 := kV.trans (hb1.mono hwV)
      have k2 := (k1.trans (g2.mono hwV)).trans (hb2.mono hwV)
      clear hV1 hV2 ho0 ho1 hin0 hR8 c0 i2 d2 c2_1
      refine (G4 _).mono ?_
      rintro e x3 ⟨pg3, cg3, rfl, rg3, d3⟩
      have y3 := d3.size
      have g3 : Below V0 w2 x3 := d3.mono (by omega)
      replace ho2 := owns_below ho2 d3
      have i3 := rg3.bytes
      have j3 := rg3.len
      replace CB := cells_under CB g3 hBv
      replace hh := in_low hh g3 hpv
      go_wp2_with ((at_builtin; refine list_spreadA hi hz0 hz1 hz2 _ _ 22 Tryd.underlying22 ho2 i3 j3 (by omega) (by omega) (by omega) (by rfl) (by rfl) (by rfl) (by rfl) ?_; intro p3 q3 w3 ho3 hb3; obtain ⟨N3, hN3⟩ := hid_ex (N2 + 4); rw [← hN3.out] at ho3 ⊢; obtain ⟨L3, hL3⟩ : ∃ L, L = L2 ++ FD := ⟨_, rfl⟩; rw [← hL3] at ho3; replace hL3 : Hid (L3 = L2 ++ FD) := hL3; have m3 : N3 ≤ 14 := Nat.le_trans (Nat.le_of_eq hN3.out) (by omega); have z3 := hb3.size; replace CB := cells_under CB hb3 hBv; replace hh := in_low hh hb3 hpv; have c4_3 : w3.cell? ⟨w.heap.size, 4, none⟩ = some (.slice p n c) := (CB.2 4).1))
      have k3 := (k2.trans (g3.mono hwV)).trans (hb3.mono hwV)
      clear ho2 i3 j3 rg3 d3 c3_2
      refine (G2 _).mono ?_
      rintro e x4 ⟨pg4, cg4, rfl, rg4, d4⟩
      have y4 := d4.size
      have g4 : Below V0 w3 x4 := d4.mono (by omega)
      replace ho3 := owns_below ho3 d4
      have i4 := rg4.bytes
      have j4 := rg4.len
      replace CB := cells_under CB g4 hBv
      replace hh := in_low hh g4 hpv
      go_wp2_with (first | (at_builtin; refine list_spreadA hi hz0 hz1 hz2 _ _ 22 Tryd.underlying22 ho4 hh hx (by omega) (by omega) (by omega) (by rfl) (by rfl) (by rfl) (by rfl) ?_; intro p5 q5 w5 ho5 hb5; obtain ⟨N5, hN5⟩ := hid_ex (N4 + n); rw [← hN5.out] at ho5 ⊢; obtain ⟨L5, hL5⟩ : ∃ L, L = L4 ++ xs := ⟨_, rfl⟩; rw [← hL5] at ho5; replace hL5 : Hid (L5 = L4 ++ xs) := hL5; have m5 : N5 ≤ 1576 := Nat.le_trans (Nat.le_of_eq hN5.out) (by omega); have z5 := hb5.size; replace CB := cells_under CB hb5 hBv; replace hh := in_low hh hb5 hpv) | (at_builtin; refine list_spreadA hi hz0 hz1 hz2 _ _ 22 Tryd.underlying22 ho3 i4 j4 (by omega) (by omega) (by omega) (by rfl) (by rfl) (by rfl) (by rfl) ?_; intro p4 q4 w4 ho4 hb4; obtain ⟨N4, hN4⟩ := hid_ex (N3 + 2); rw [← hN4.out] at ho4 ⊢; obtain ⟨L4, hL4⟩ : ∃ L, L = L3 ++ FN := ⟨_, rfl⟩; rw [← hL4] at ho4; replace hL4 : Hid (L4 = L3 ++ FN) := hL4; have m4 : N4 ≤ 16 := Nat.le_trans (Nat.le_of_eq hN4.out) (by omega); have z4 := hb4.size; replace CB := cells_under CB hb4 hBv; replace hh := in_low hh hb4 hpv; have c4_4 : w4.cell? ⟨w.heap.size, 4, none⟩ = some (.slice p n c) := (CB.2 4).1))
      have k4 := (k3.trans (g4.mono hwV)).trans (hb4.mono hwV)
      have k5 := k4.trans (hb5.mono hwV)
      clear ho3 ho4 i4 j4 rg4 d4 c4_3 c4_4
      have hN5e : N5 = 16 + n := by rw [hN5.out, hN4.out, hN3.out, hN2.out, hN1.out]
      have GT5 := GT N5 hN5e
      replace hN5e : Hid _ := hN5e
      refine (GT5 _).mono ?_
      rintro e x6 ⟨pg6, cg6, rfl, rg6, d6⟩
      have y6 := d6.size
      have g6 : Below V0 w5 x6 := d6.mono (by omega)
      replace ho5 := owns_below ho5 d6
      have i6 := rg6.bytes
      have j6 := rg6.len
      replace CB := cells_under CB g6 hBv
      replace hh := in_low hh g6 hpv
      go_wp2_with ((at_builtin; refine list_spreadA hi hz0 hz1 hz2 _ _ 22 Tryd.underlying22 ho5 i6 j6 (by omega) (by omega) (by omega) (by rfl) (by rfl) (by rfl) (by rfl) ?_; intro p6 q6 w6 ho6 hb6; obtain ⟨N6, hN6⟩ := hid_ex (N5 + 2); rw [← hN6.out] at ho6 ⊢; obtain ⟨L6, hL6⟩ : ∃ L, L = L5 ++ FT := ⟨_, rfl⟩; rw [← hL6] at ho6; replace hL6 : Hid (L6 = L5 ++ FT) := hL6; have m6 : N6 ≤ 1578 := Nat.le_trans (Nat.le_of_eq hN6.out) (by omega); have z6 := hb6.size; replace CB := cells_under CB hb6 hBv; replace hh := in_low hh hb6 hpv))
      have k6 := (k5.trans (g6.mono hwV)).trans (hb6.mono hwV)
      have hL : L6 = TL := by rw [hTL.out, hL6.out, hL5.out, hL4.out, hL3.out, hL2.out, hL1.out]
      have hNe : N6 = TN := by rw [hN6.out, hN5e.out, hTN.out]; omega
      rw [hL] at ho6
      subst hNe
      go_ret
      exact ⟨_, _, rfl, ⟨owns_mono ho6 hwV, owns_top ho6⟩, k6⟩

end Go.Proofs.YtelfejgpphoifaaDoor
