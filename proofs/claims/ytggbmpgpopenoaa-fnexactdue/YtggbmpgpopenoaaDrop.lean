/-
  (*shelf).drop: what of a route is asked away. Conditions: a shelf of no more than a law hands over; a test that turns nothing, whatever it asks.
-/
import Derived.Test.YtggbmpgpopenoaaDelFunc
namespace Go.Proofs.Ytggbmpgpopenoaa
open Go.RowKit
set_option maxRecDepth 100000

theorem deleteFunc_any (P : ItA → Bool) (K : World → Prop) (hK : ∀ W W', K W → Below W.heap.size W W' → K W') (GB : Nat)
    (hdel : ∀ (z : PIt) (W : World), K W → Calls Try.prog 74 #[.agg #[.int .i64 z.k, .string z.x.s, .int .i64 z.x.t, .int .i64 z.x.d, .slice z.x.p z.x.n z.x.c], .pointer (some ⟨GB, 0, none⟩)] W fun e w' => e = .returned (.bool (P z.x)) ∧ Below W.heap.size W w')
    (lo : Nat) (p : Option Addr) (n c : Nat) (l : List PIt) (w : World) (hn : n ≤ 1048577) (hl : l.length = n) (h : w.ownsRow lo 96 5 (.slice p n c) n (flatP l)) (hG : ∀ g, (Value.slice p n c).ownBlock = some g → ∀ W W', K W → W.grownBy W' (some g) → K W') (kw : K w) :
    Calls Try.prog 73 #[.slice p n c, .func (.func 74) #[] #[.pointer (some ⟨GB, 0, none⟩)]] w fun e w' => e = .returned (.slice p (keepP P l).length c) ∧ w'.ownsRow lo 96 5 (.slice p (keepP P l).length c) (keepP P l).length (flatP (keepP P l)) ∧ w.grownBy w' (Value.slice p n c).ownBlock := by
  rcases h.2 with ⟨hv, h0⟩ | ⟨g, cap, cur, hv, _⟩
  · simp only [Value.slice.injEq] at hv
    obtain ⟨rfl, _, rfl⟩ := hv
    subst h0
    obtain rfl : l = [] := List.length_eq_zero_iff.1 hl
    have CI := indexFuncD_any P K hK GB hdel none 0 0 [] w hn rfl ⟨Nat.le_refl _, by omega, fun h => by omega⟩ kw
    go_enter Try.func73, Try.ntmps73
    go_wp2_with (fail)
    refine CI.mono ?_
    rintro e w1 ⟨r, rfl, hr, b1⟩
    rcases hr.out with ⟨rfl, _⟩ | ⟨r0, _, hr0, _⟩
    · clear hr hdel CI
      have g1 := below_grown b1 none
      go_wp2_with (fail)
      go_ret
      exact ⟨rfl, World.ownsRow_nil _ _ _ _, g1⟩
    · omega
  · simp only [Value.slice.injEq] at hv
    obtain ⟨rfl, _, rfl⟩ := hv
    exact deleteFunc_some P K hK GB hdel lo g n c l w hn hl h (hG g rfl) kw

theorem drop1_put (P : ItA → Bool) (XB GB : Nat) (KK : World → Prop) (hKK : ∀ W W', KK W → Below W.heap.size W W' → KK W')
    (hgoes : ∀ (x : ItA) (W : World), KK W → Calls Try.prog 45 #[.agg #[.string x.s, .int .i64 x.t, .int .i64 x.d, .slice x.p x.n x.c], .pointer (some ⟨XB, 0, none⟩)] W fun e w' => e = .returned (.bool (P x)) ∧ Below W.heap.size W w')
    (z : PIt) (w : World) (hf : w.cell? ⟨GB, 0, none⟩ = some (.func (.func 45) #[] #[.pointer (some ⟨XB, 0, none⟩)])) (kw : KK w) :
    Calls Try.prog 74 #[.agg #[.int .i64 z.k, .string z.x.s, .int .i64 z.x.t, .int .i64 z.x.d, .slice z.x.p z.x.n z.x.c], .pointer (some ⟨GB, 0, none⟩)] w fun e w' => e = .returned (.bool (P z.x)) ∧ Below w.heap.size w w' := by
  obtain ⟨w1, hw1⟩ : ∃ w1, w1 = w.alloc (.cells #[.int .i64 z.k, .string z.x.s, .int .i64 z.x.t, .int .i64 z.x.d, .slice z.x.p z.x.n z.x.c] 96) := ⟨_, rfl⟩
  have b1 : Below w.heap.size w w1 := by rw [hw1]; exact made_below _ _ (Below.refl _ _)
  have C1 : Cells w1 w.heap.size #[.int .i64 z.k, .string z.x.s, .int .i64 z.x.t, .int .i64 z.x.d, .slice z.x.p z.x.n z.x.c] := by rw [hw1]; exact Cells.made _ _ _
  have m1 : w1.cell? ⟨w.heap.size, 1, none⟩ = some (.string z.x.s) := (C1.2 1).1
  have m2 : w1.cell? ⟨w.heap.size, 2, none⟩ = some (.int .i64 z.x.t) := (C1.2 2).1
  have m3 : w1.cell? ⟨w.heap.size, 3, none⟩ = some (.int .i64 z.x.d) := (C1.2 3).1
  have m4 : w1.cell? ⟨w.heap.size, 4, none⟩ = some (.slice z.x.p z.x.n z.x.c) := (C1.2 4).1
  have hf1 : w1.cell? ⟨GB, 0, none⟩ = some (.func (.func 45) #[] #[.pointer (some ⟨XB, 0, none⟩)]) := (b1.cell (World.block_lt_of_cell? w _ hf)).trans hf
  replace hw1 : Hid (w.alloc (.cells #[.int .i64 z.k, .string z.x.s, .int .i64 z.x.t, .int .i64 z.x.d, .slice z.x.p z.x.n z.x.c] 96) = w1) := hw1.symm
  have C := hgoes z.x w1 (hKK _ _ kw b1)
  clear hgoes hKK kw hf C1
  go_enter Try.func74, Try.ntmps74
  go_wp2_with (rw [hw1.out])
  refine C.mono ?_
  rintro e w2 ⟨rfl, b2⟩
  have k2 := below_on b1 b2
  clear C m1 m2 m3 m4 hf1 b1 b2 hw1
  go_wp2_with (fail)
  go_ret
  exact ⟨rfl, k2⟩

theorem drop1_due (P : ItA → Bool) (XB GB : Nat) (KK : World → Prop) (hKK : ∀ W W', KK W → Below W.heap.size W W' → KK W')
    (hgoes : ∀ (x : ItA) (W : World), KK W → Calls Try.prog 55 #[.agg #[.string x.s, .int .i64 x.t, .int .i64 x.d, .slice x.p x.n x.c], .pointer (some ⟨XB, 0, none⟩)] W fun e w' => e = .returned (.bool (P x)) ∧ Below W.heap.size W w')
    (z : PIt) (w : World) (hf : w.cell? ⟨GB, 0, none⟩ = some (.func (.func 55) #[] #[.pointer (some ⟨XB, 0, none⟩)])) (kw : KK w) :
    Calls Try.prog 74 #[.agg #[.int .i64 z.k, .string z.x.s, .int .i64 z.x.t, .int .i64 z.x.d, .slice z.x.p z.x.n z.x.c], .pointer (some ⟨GB, 0, none⟩)] w fun e w' => e = .returned (.bool (P z.x)) ∧ Below w.heap.size w w' := by
  obtain ⟨w1, hw1⟩ : ∃ w1, w1 = w.alloc (.cells #[.int .i64 z.k, .string z.x.s, .int .i64 z.x.t, .int .i64 z.x.d, .slice z.x.p z.x.n z.x.c] 96) := ⟨_, rfl⟩
  have b1 : Below w.heap.size w w1 := by rw [hw1]; exact made_below _ _ (Below.refl _ _)
  have C1 : Cells w1 w.heap.size #[.int .i64 z.k, .string z.x.s, .int .i64 z.x.t, .int .i64 z.x.d, .slice z.x.p z.x.n z.x.c] := by rw [hw1]; exact Cells.made _ _ _
  have m1 : w1.cell? ⟨w.heap.size, 1, none⟩ = some (.string z.x.s) := (C1.2 1).1
  have m2 : w1.cell? ⟨w.heap.size, 2, none⟩ = some (.int .i64 z.x.t) := (C1.2 2).1
  have m3 : w1.cell? ⟨w.heap.size, 3, none⟩ = some (.int .i64 z.x.d) := (C1.2 3).1
  have m4 : w1.cell? ⟨w.heap.size, 4, none⟩ = some (.slice z.x.p z.x.n z.x.c) := (C1.2 4).1
  have hf1 : w1.cell? ⟨GB, 0, none⟩ = some (.func (.func 55) #[] #[.pointer (some ⟨XB, 0, none⟩)]) := (b1.cell (World.block_lt_of_cell? w _ hf)).trans hf
  replace hw1 : Hid (w.alloc (.cells #[.int .i64 z.k, .string z.x.s, .int .i64 z.x.t, .int .i64 z.x.d, .slice z.x.p z.x.n z.x.c] 96) = w1) := hw1.symm
  have C := hgoes z.x w1 (hKK _ _ kw b1)
  clear hgoes hKK kw hf C1
  go_enter Try.func74, Try.ntmps74
  go_wp2_with (rw [hw1.out])
  refine C.mono ?_
  rintro e w2 ⟨rfl, b2⟩
  have k2 := below_on b1 b2
  clear C m1 m2 m3 m4 hf1 b1 b2 hw1
  go_wp2_with (fail)
  go_ret
  exact ⟨rfl, k2⟩

/-- L without what of a route is asked away. -/
def outP (s : ByteArray) (P : ItA → Bool) (L : List PIt) : List PIt := L.filter (fun z => !(decide (z.x.s = s) && P z.x))
theorem outP_same (s : ByteArray) (P : ItA → Bool) (L : List PIt) : ofR s (outP s P L) = keepP P (ofR s L) := by
  unfold ofR outP keepP
  rw [List.filter_filter, List.filter_filter]
  refine List.filter_congr fun z _ => ?_
  by_cases e : z.x.s = s <;> simp [e]
theorem outP_other (s y : ByteArray) (P : ItA → Bool) (L : List PIt) (h : y ≠ s) : ofR y (outP s P L) = ofR y L := by
  unfold ofR outP
  rw [List.filter_filter]
  refine List.filter_congr fun z _ => ?_
  by_cases e : z.x.s = y
  · simp [e, h]
  · simp [e]
theorem outP_sub (s : ByteArray) (P : ItA → Bool) (L : List PIt) : (outP s P L).Sublist L := List.filter_sublist

theorem Rows13.drop {w w1 w2 : World} {lo S B n : Nat} {m : ByteArray → Option Value} {L : List PIt} {P : ItA → Bool} {s : ByteArray} {p : Option Addr} {c : Nat} (h : Rows13 w lo S B n m L) (hv : (m s).getD (.slice none 0 0) = .slice p (ofR s L).length c)
    (hg : w.grownBy w1 (Value.slice p (ofR s L).length c).ownBlock) (hrow : w1.ownsRow lo 96 5 (.slice p (keepP P (ofR s L)).length c) (keepP P (ofR s L)).length (flatP (keepP P (ofR s L))))
    (hmap : MapW w2 B (n + 1) (fun y => if y = s then (if (keepP P (ofR s L)).length = 0 then none else some (.slice p (keepP P (ofR s L)).length c)) else m y)) (ht : w1.grownBy w2 (some B)) :
    Rows13 w2 lo S B (n + 1) (fun y => if y = s then (if (keepP P (ofR s L)).length = 0 then none else some (.slice p (keepP P (ofR s L)).length c)) else m y) (outP s P L) := by
  have hob : ∀ k, (Value.slice p k c).ownBlock = ((m s).getD (.slice none 0 0)).ownBlock := fun k => by rw [hv]; cases p <;> rfl
  have hB : some B ≠ ((m s).getD (.slice none 0 0)).ownBlock := fun e => row_not_map h.map (h.row s) e.symm
  have hold : ∀ y v, y ≠ s → m y = some v → v.ownBlock ≠ ((m s).getD (.slice none 0 0)).ownBlock := fun y v hy hmy e => by
    cases hz : m s with
    | none => rw [hz] at e; exact h.ne hmy e
    | some u => rw [hz] at e; exact h.apart y s v u hy hmy hz e
  have hsome : (keepP P (ofR s L)).length ≠ 0 → ∃ u, m s = some u := fun e => by
    have : ofR s L ≠ [] := fun e2 => e (by rw [e2]; rfl)
    obtain ⟨v, hv, _⟩ := h.aRow s this
    exact ⟨v, hv⟩
  rw [hob] at hg
  refine ⟨hmap, h.loB, fun y hy => ?_, fun y hy => ?_, fun y y' v u hyy hv' hu => ?_, fun y v hv' => ?_⟩
  · by_cases e : y = s
    · subst e
      rw [outP_same] at hy
      simp [hy]
    · rw [outP_other s y P L e] at hy
      simp only [if_neg e]
      exact h.noRow y hy
  · by_cases e : y = s
    · subst e
      rw [outP_same] at hy ⊢
      have h0 : (keepP P (ofR y L)).length ≠ 0 := fun k => hy (List.length_eq_zero_iff.1 k)
      refine ⟨.slice p (keepP P (ofR y L)).length c, by simp only [if_true, if_neg h0], ?_⟩
      exact hrow.kept ht (.inr (by rw [hob]; exact fun k => hB k.symm))
    · rw [outP_other s y P L e] at hy ⊢
      obtain ⟨v, hmy, ho⟩ := h.aRow y hy
      refine ⟨v, by simp only [if_neg e]; exact hmy, ?_⟩
      exact (ho.kept hg (.inr (hold y v e hmy))).kept ht (.inr (row_not_map h.map ho))
  · by_cases e : y = s
    · subst e
      simp only [if_true] at hv'
      by_cases h0 : (keepP P (ofR y L)).length = 0
      · rw [if_pos h0] at hv'; cases hv'
      · rw [if_neg h0] at hv'
        cases hv'
        rw [if_neg (Ne.symm hyy)] at hu
        rw [hob]
        exact fun k => hold y' u (Ne.symm hyy) hu k.symm
    · simp only [if_neg e] at hv'
      by_cases e' : y' = s
      · subst e'
        simp only [if_true] at hu
        by_cases h0 : (keepP P (ofR y' L)).length = 0
        · rw [if_pos h0] at hu; cases hu
        · rw [if_neg h0] at hu
          cases hu
          rw [hob]
          exact hold y v e hv'
      · simp only [if_neg e'] at hu
        exact h.apart y y' v u hyy hv' hu
  · by_cases e : y = s
    · subst e
      simp only [if_true] at hv'
      by_cases h0 : (keepP P (ofR y L)).length = 0
      · rw [if_pos h0] at hv'; cases hv'
      · rw [if_neg h0] at hv'
        cases hv'
        obtain ⟨u, hu⟩ := hsome h0
        rw [hob, hu]
        exact h.off y u hu
    · simp only [if_neg e] at hv'
      exact h.off y v hv'

set_option maxHeartbeats 4000000 in
theorem drop_any (P : ItA → Bool) (G XB : Nat) (KK : World → Prop) (hKK : ∀ W W', KK W → Below W.heap.size W W' → KK W')
    (hdrop1 : ∀ (GB : Nat) (z : PIt) (W : World), W.cell? ⟨GB, 0, none⟩ = some (.func (.func G) #[] #[.pointer (some ⟨XB, 0, none⟩)]) → KK W → Calls Try.prog 74 #[.agg #[.int .i64 z.k, .string z.x.s, .int .i64 z.x.t, .int .i64 z.x.d, .slice z.x.p z.x.n z.x.c], .pointer (some ⟨GB, 0, none⟩)] W fun e w' => e = .returned (.bool (P z.x)) ∧ Below W.heap.size W w')
    (w : World) (lo S B n : Nat) (m : ByteArray → Option Value) (L : List PIt) (nx : Int) (s : ByteArray) (hs : s.size ≤ 1048576) (hn : n ≤ 16777216) (hL : L.length ≤ 1048577) (hC : Cells w S #[.map (some B), .int .i64 nx]) (hlo : lo ≤ S) (hR : Rows13 w lo S B n m L)
    (hKG : ∀ g W W', lo ≤ g → KK W → W.grownBy W' (some g) → KK W') (kw : KK w) :
    Calls Try.prog 44 #[.pointer (some ⟨S, 0, none⟩), .string s, .func (.func G) #[] #[.pointer (some ⟨XB, 0, none⟩)]] w fun e w' => ∃ m', e = .returned (.tuple #[]) ∧ Cells w' S #[.map (some B), .int .i64 nx] ∧ Rows13 w' lo S B (n + 1) m' (outP s P L) ∧ (∀ y, y ≠ s → m' y = m y) ∧ Below lo w w' ∧ KK w' := by
  have hSw := hC.1
  have hSB : B ≠ S := cells_not_map hR.map hC (by simp)
  obtain ⟨w1, hw1⟩ : ∃ w1, w1 = w.alloc (.cells #[.func (.func G) #[] #[.pointer (some ⟨XB, 0, none⟩)]] 44) := ⟨_, rfl⟩
  have b1 : Below w.heap.size w w1 := by rw [hw1]; exact made_below _ _ (Below.refl _ _)
  have C1 : Cells w1 w.heap.size #[.func (.func G) #[] #[.pointer (some ⟨XB, 0, none⟩)]] := by rw [hw1]; exact Cells.made _ _ _
  replace hw1 : Hid (w.alloc (.cells #[.func (.func G) #[] #[.pointer (some ⟨XB, 0, none⟩)]] 44) = w1) := hw1.symm
  have hR1 := hR.on b1
  have hC1 := hC.on b1
  have l0 : w1.cell? ⟨S, 0, none⟩ = some (.map (some B)) := (hC1.2 0).1
  have f0 : w1.cell? ⟨w.heap.size, 0, none⟩ = some (.func (.func G) #[] #[.pointer (some ⟨XB, 0, none⟩)]) := (C1.2 0).1
  have hlk := hR1.map.look s hs
  have hrow := hR1.row s
  obtain ⟨p, c, hv⟩ : ∃ p c, (m s).getD (.slice none 0 0) = .slice p (ofR s L).length c := by
    rcases hrow.2 with ⟨e, h0⟩ | ⟨g, cap, cur, e, _⟩
    · rw [e, h0]; exact ⟨none, 0, rfl⟩
    · rw [e]; exact ⟨_, _, rfl⟩
  rw [hv] at hrow hlk
  have hlen := ofR_len s L
  have hrow0 := hR.row s
  rw [hv] at hrow0
  have CD := deleteFunc_any P (fun W => W.cell? ⟨w.heap.size, 0, none⟩ = some (.func (.func G) #[] #[.pointer (some ⟨XB, 0, none⟩)]) ∧ KK W)
    (fun W W' k b => ⟨(b.cell (World.block_lt_of_cell? W _ k.1)).trans k.1, hKK W W' k.2 b⟩) w.heap.size (fun z W k => hdrop1 w.heap.size z W k.1 k.2)
    lo p (ofR s L).length c (ofR s L) w1 (by omega) rfl hrow
    (fun g hg W W' k gr => by
      have hb := hrow0.lt g hg
      refine ⟨?_, hKG g W W' hb.1 k.2 gr⟩
      rw [World.cell?_of_block (w := W) (gr.block w.heap.size (World.block_lt_of_cell? W _ k.1) (fun e => by simp only [Option.some.injEq] at e; omega))]
      exact k.1) ⟨f0, hKK _ _ kw b1⟩
  have hkl : (keepP P (ofR s L)).length ≤ 1048577 := Nat.le_trans (List.length_filter_le _ _) (by omega)
  have hgb : Hid (∀ g, (Value.slice p (ofR s L).length c).ownBlock = some g → lo ≤ g ∧ g < w.heap.size ∧ g ≠ S ∧ g ≠ B) := fun g hg => by
    have hb := hrow0.lt g hg
    refine ⟨hb.1, hb.2, fun e => ?_, fun e => ?_⟩
    · cases hm : m s with
      | none => rw [hm] at hv; simp only [Option.getD_none] at hv; rw [← hv] at hg; cases hg
      | some u =>
        rw [hm] at hv
        simp only [Option.getD_some] at hv
        exact hR.off s u hm (by rw [hv, hg, e])
    · exact row_not_map hR.map hrow0 (by rw [hg, e])
  obtain ⟨rl, hrl⟩ : ∃ rl, rl = (ofR s L).length := ⟨_, rfl⟩
  obtain ⟨kp, hkp⟩ : ∃ kp, kp = keepP P (ofR s L) := ⟨_, rfl⟩
  obtain ⟨kn, hkn⟩ : ∃ kn, kn = kp.length := ⟨_, rfl⟩
  rw [← hkp, ← hkn, ← hrl] at CD
  rw [← hrl] at hlk
  replace hrl : Hid (rl = (ofR s L).length) := hrl
  replace hkp : Hid (kp = keepP P (ofR s L)) := hkp
  have hkn2 : kn ≤ 1048577 := by rw [hkn, hkp.out]; exact hkl
  replace hkn : Hid (kn = kp.length) := hkn
  clear hrow hrow0 hlen hkl hR1 C1 f0 hdrop1
  go_enter Try.func44, Try.ntmps44
  go_wp2_with (rw [hw1.out])
  refine CD.mono ?_
  rintro e w2 ⟨rfl, O2, g2⟩
  rw [hrl.out] at g2
  have l2 : w2.cell? ⟨S, 0, none⟩ = some (.map (some B)) := by
    rw [World.cell?_of_block (w := w1) (g2.block S (hC1.1) (fun k => (hgb.out S k.symm).2.2.1 rfl))]
    exact l0
  have M2 : MapW w2 B n m := (hR.map.on b1).kept g2 (fun k => (hgb.out B k.symm).2.2.2 rfl)
  have CL := leave_any w2 S B n m s p kn c l2 M2 hs hn hkn2
  have C2 : Cells w2 S #[.map (some B), .int .i64 nx] := hC1.grown g2 (fun k => (hgb.out S k.symm).2.2.1 rfl)
  have kk2 : KK w2 := by
    cases ho : (Value.slice p (ofR s L).length c).ownBlock with
    | none => rw [ho] at g2; exact hKG S w1 w2 hlo (hKK _ _ kw b1) ⟨g2.os, g2.tape, g2.output, g2.size, fun k hk _ => g2.block k hk (by simp)⟩
    | some g => rw [ho] at g2; exact hKG g w1 w2 (hgb.out g ho).1 (hKK _ _ kw b1) g2
  have bb2 : Below lo w w2 := (b1.mono (by omega)).grown g2 (by have := b1.size; omega) (fun j hj => (hgb.out j hj).1)
  clear CD hlk l0
  go_wp2_with (fail)
  refine CL.mono ?_
  rintro e w3 ⟨rfl, M3, t3⟩
  have C3 : Cells w3 S #[.map (some B), .int .i64 nx] := C2.grown t3.grown (fun k => hSB (by cases k; rfl))
  have kk3 : KK w3 := hKG B w2 w3 hR.loB kk2 t3.grown
  have bb3 : Below lo w w3 := bb2.grown t3.grown (by have := bb2.size; omega) (fun j hj => by cases hj; exact hR.loB)
  rw [hkn.out, hkp.out] at M3
  rw [hkn.out, hkp.out] at O2
  have R3 := (hR.on b1).drop (P := P) (s := s) (p := p) (c := c) hv g2 O2 M3 t3.grown
  clear CL M3 O2 M2 C2 l2
  go_wp2_with (fail)
  first | go_end0 | (simp only [Exit.inBlock, Exit.then]; refine bodyPost_ret (results_none rfl _ _ _) rfl ?_) | refine bodyPost_ret (results_none rfl _ _ _) rfl ?_
  exact ⟨_, rfl, C3, R3, fun y hy => by simp only [if_neg hy], bb3, kk3⟩

end Go.Proofs.Ytggbmpgpopenoaa
