/-
  (*shelf).leave and (*shelf).drop inside a range over the shelf's map. Conditions: a route that is there; a test that turns nothing, whatever it asks.
-/
import Derived.Test.YtggbmpgpopenoaaDrop
import Derived.Test.YtggbmpgpopenoaaRangeStore
namespace Go.Proofs.Ytggbmpgpopenoaa
open Go.RowKit
set_option maxRecDepth 100000

/-- A range over the map in block B, by the iterator in block r: what is still to come. -/
def RangeW (w : World) (B r n : Nat) (m : ByteArray → Option Value) (left : Lit → Bool) (cnt : Nat) : Prop := ∃ D : DataW Value, w.ranges Try.prog 9 tokR B r n D left cnt ∧ SaysM D m
theorem RangeW.map {w : World} {B r n : Nat} {m : ByteArray → Option Value} {left : Lit → Bool} {cnt : Nat} (h : RangeW w B r n m left cnt) : MapW w B n m := by
  obtain ⟨D, h, hm⟩ := h
  exact ⟨D, h.owns, hm⟩
theorem RangeW.kept {w w' : World} {B r n : Nat} {m : ByteArray → Option Value} {left : Lit → Bool} {cnt : Nat} {row : Option Nat} (h : RangeW w B r n m left cnt) (hg : w.grownBy w' row) (hb : some B ≠ row) (hr : some r ≠ row) : RangeW w' B r n m left cnt := by
  obtain ⟨D, h, hm⟩ := h
  exact ⟨D, h.kept hg hb hr, hm⟩
theorem RangeW.on {w w' : World} {B r n : Nat} {m : ByteArray → Option Value} {left : Lit → Bool} {cnt : Nat} (h : RangeW w B r n m left cnt) (b : Below w.heap.size w w') : RangeW w' B r n m left cnt :=
  h.kept (below_grown b none) (by simp) (by simp)
theorem RangeW.not_row {w : World} {B r n : Nat} {m : ByteArray → Option Value} {left : Lit → Bool} {cnt : Nat} (h : RangeW w B r n m left cnt) {lo e size k : Nat} {v : Value} {xs : List Value} (hr : w.ownsRow lo e size v k xs) (hv : v.ownBlock = some r) : False := by
  obtain ⟨D, ⟨es, clock, since, seen, c0, _, _, _, _, hi, _⟩, _⟩ := h
  rcases hr.2 with ⟨rfl, _⟩ | ⟨g, cap, cur, rfl, _, hgg, _⟩
  · cases hv
  · simp only [Value.ownBlock, Option.some.injEq] at hv
    rw [hv, hi] at hgg
    cases hgg
theorem MapW.more {w : World} {B n n' : Nat} {m : ByteArray → Option Value} (h : MapW w B n m) (hn : n ≤ n') : MapW w B n' m := by
  obtain ⟨D, h, hm⟩ := h
  exact ⟨D, h.mono hn, hm⟩
theorem Rows13.count {w : World} {lo S B n n' : Nat} {m : ByteArray → Option Value} {L : List PIt} (h : Rows13 w lo S B n m L) (hM : MapW w B n' m) : Rows13 w lo S B n' m L := ⟨hM, h.loB, h.noRow, h.aRow, h.apart, h.off⟩
theorem kl_same (y : ByteArray) : (kl y).sameKey (kl y) = true := by simp [kl, Lit.sameKey]
theorem kl_other {y s : ByteArray} (h : y ≠ s) : (kl y).sameKey (kl s) = false := by
  rw [Bool.eq_false_iff]
  intro k
  exact h (kl_inj (by simpa [kl, Lit.sameKey] using k))

set_option maxHeartbeats 2000000 in
theorem leaveR_any (w : World) (S B n : Nat) (m : ByteArray → Option Value) (s : ByteArray) (q : Option Addr) (k c r : Nat) (left : Lit → Bool) (cnt : Nat) (hS : w.cell? ⟨S, 0, none⟩ = some (.map (some B))) (hm : RangeW w B r n m left cnt) (hs : s.size ≤ 1048576) (hn : n ≤ 16777216) (hk : k ≤ 1048577) (hks : m s ≠ none) :
    Calls Try.prog 75 #[.pointer (some ⟨S, 0, none⟩), .string s, .slice q k c] w fun e w' => e = .returned (.tuple #[]) ∧ ∃ left' cnt', RangeW w' B r n (fun y => if y = s then (if k = 0 then none else some (.slice q k c)) else m y) left' cnt' ∧ cnt' ≤ cnt ∧ (∀ y, y ≠ s → left' (kl y) = left (kl y)) ∧ (left (kl s) = false → left' (kl s) = false) ∧ w.mapTurned w' B := by
  obtain ⟨D, hrg, hsay⟩ := hm
  by_cases h0 : k = 0
  · subst h0
    obtain ⟨w', cnt', hrun, hM, hc, ht⟩ := hrg.drop keyedS Try.underlying74 (keyS s hs) 0
    have hM' : RangeW w' B r n (fun y => if y = s then (if (0 : Nat) = 0 then none else some (.slice q 0 c)) else m y) (fun x => left x && !x.sameKey (kl s)) cnt' := by
      refine ⟨_, hM, fun z => ?_⟩
      by_cases e : z = s
      · subst e
        refine ⟨fun _ y => Maps.atKey_del_same y, fun u hu => ?_⟩
        simp at hu
      · simp only [if_neg e]
        exact ⟨fun h0 y => by rw [Maps.atKey_del_other (fun k => e (kl_inj k))]; exact (hsay z).1 h0 y, fun u hu y => by rw [Maps.atKey_del_other (fun k => e (kl_inj k))]; exact (hsay z).2 u hu y⟩
    clear hM hrg hsay
    go_enter Try.func75, Try.ntmps75
    go_wp2_with (fail)
    first | go_end0 | (simp only [Exit.inBlock, Exit.then]; refine bodyPost_ret (results_none rfl _ _ _) rfl ?_) | refine bodyPost_ret (results_none rfl _ _ _) rfl ?_
    exact ⟨rfl, _, cnt', hM', hc, fun y hy => by simp [kl_other hy], fun h => by simp [h], ht⟩
  · have hthere : Maps.has D (kl s) = true := by
      rw [hsay.has s]
      cases e : m s with
      | none => exact absurd e hks
      | some v => rfl
    obtain ⟨w', hrun, hM, ht⟩ := ranges_store hrg keyedS Try.underlying74 (by unfold maxLen; omega) (keyS s hs) (val := .slice q k c) (d := .held (.slice q k c)) (ps := []) rfl hthere
    have hM' : RangeW w' B r n (fun y => if y = s then (if k = 0 then none else some (.slice q k c)) else m y) left cnt := by
      refine ⟨_, hM, fun z => ?_⟩
      by_cases e : z = s
      · subst e
        refine ⟨fun h1 => by simp [h0] at h1, fun u hu y => ?_⟩
        simp only [if_true, if_neg h0, Option.some.injEq] at hu
        rw [Maps.atKey_put_same hrg.owns.isMap (keyedS.key (keyS z hs)), hu]
      · simp only [if_neg e]
        exact ⟨fun h0 y => by rw [Maps.atKey_put_other (fun k => e (kl_inj k))]; exact (hsay z).1 h0 y, fun u hu y => by rw [Maps.atKey_put_other (fun k => e (kl_inj k))]; exact (hsay z).2 u hu y⟩
    have h1 : ((k : Int) == 0) = false := by simp; omega
    simp only [if_neg h0] at hM' ⊢
    clear hM hrg hsay h0 hthere
    go_enter Try.func75, Try.ntmps75
    go_wp2_with (fail)
    first | go_end0 | (simp only [Exit.inBlock, Exit.then]; refine bodyPost_ret (results_none rfl _ _ _) rfl ?_) | refine bodyPost_ret (results_none rfl _ _ _) rfl ?_
    exact ⟨rfl, left, cnt, hM', Nat.le_refl _, fun _ _ => rfl, fun h => h, ht⟩

set_option maxHeartbeats 4000000 in
theorem dropR_any (P : ItA → Bool) (G XB : Nat) (KK : World → Prop) (hKK : ∀ W W', KK W → Below W.heap.size W W' → KK W')
    (hdrop1 : ∀ (GB : Nat) (z : PIt) (W : World), W.cell? ⟨GB, 0, none⟩ = some (.func (.func G) #[] #[.pointer (some ⟨XB, 0, none⟩)]) → KK W → Calls Try.prog 74 #[.agg #[.int .i64 z.k, .string z.x.s, .int .i64 z.x.t, .int .i64 z.x.d, .slice z.x.p z.x.n z.x.c], .pointer (some ⟨GB, 0, none⟩)] W fun e w' => e = .returned (.bool (P z.x)) ∧ Below W.heap.size W w')
    (w : World) (lo S B n : Nat) (m : ByteArray → Option Value) (L : List PIt) (nx : Int) (s : ByteArray) (hs : s.size ≤ 1048576) (hn : n ≤ 16777216) (hL : L.length ≤ 1048577) (hC : Cells w S #[.map (some B), .int .i64 nx]) (hlo : lo ≤ S) (hR : Rows13 w lo S B n m L)
    (r : Nat) (left : Lit → Bool) (cnt : Nat) (hW : RangeW w B r n m left cnt) (hks : m s ≠ none)
    (hKG : ∀ g W W', lo ≤ g → KK W → W.grownBy W' (some g) → KK W') (kw : KK w) :
    Calls Try.prog 44 #[.pointer (some ⟨S, 0, none⟩), .string s, .func (.func G) #[] #[.pointer (some ⟨XB, 0, none⟩)]] w fun e w' => ∃ m' left' cnt', e = .returned (.tuple #[]) ∧ Cells w' S #[.map (some B), .int .i64 nx] ∧ Rows13 w' lo S B n m' (outP s P L) ∧ RangeW w' B r n m' left' cnt' ∧ cnt' ≤ cnt ∧ (∀ y, y ≠ s → left' (kl y) = left (kl y)) ∧ (left (kl s) = false → left' (kl s) = false) ∧ Below lo w w' ∧ KK w' := by
  have hSw := hC.1
  have hSB : B ≠ S := cells_not_map hR.map hC (by simp)
  obtain ⟨w1, hw1⟩ : ∃ w1, w1 = w.alloc (.cells #[.func (.func G) #[] #[.pointer (some ⟨XB, 0, none⟩)]] 44) := ⟨_, rfl⟩
  have b1 : Below w.heap.size w w1 := by rw [hw1]; exact made_below _ _ (Below.refl _ _)
  have C1 : Cells w1 w.heap.size #[.func (.func G) #[] #[.pointer (some ⟨XB, 0, none⟩)]] := by rw [hw1]; exact Cells.made _ _ _
  replace hw1 : Hid (w.alloc (.cells #[.func (.func G) #[] #[.pointer (some ⟨XB, 0, none⟩)]] 44) = w1) := hw1.symm
  have hR1 := hR.on b1
  have hC1 := hC.on b1
  have l0 : w1.cell? ⟨S, 0, none⟩ = some (.map (some B)) := (hC1.2 0).1
  have f0 : w1.cell? ⟨w.heap.size, 0, none⟩ = some (.func (.func G) #[] #[.pointer (some ⟨XB, 0, none⟩)]) := (C1.2 0).1
  have hlk := hR1.map.look s hs
  have hrow := hR1.row s
  obtain ⟨p, c, hv⟩ : ∃ p c, (m s).getD (.slice none 0 0) = .slice p (ofR s L).length c := by
    rcases hrow.2 with ⟨e, h0⟩ | ⟨g, cap, cur, e, _⟩
    · rw [e, h0]; exact ⟨none, 0, rfl⟩
    · rw [e]; exact ⟨_, _, rfl⟩
  rw [hv] at hrow hlk
  have hlen := ofR_len s L
  have hrow0 := hR.row s
  rw [hv] at hrow0
  have CD := deleteFunc_any P (fun W => W.cell? ⟨w.heap.size, 0, none⟩ = some (.func (.func G) #[] #[.pointer (some ⟨XB, 0, none⟩)]) ∧ KK W)
    (fun W W' k b => ⟨(b.cell (World.block_lt_of_cell? W _ k.1)).trans k.1, hKK W W' k.2 b⟩) w.heap.size (fun z W k => hdrop1 w.heap.size z W k.1 k.2)
    lo p (ofR s L).length c (ofR s L) w1 (by omega) rfl hrow
    (fun g hg W W' k gr => by
      have hb := hrow0.lt g hg
      refine ⟨?_, hKG g W W' hb.1 k.2 gr⟩
      rw [World.cell?_of_block (w := W) (gr.block w.heap.size (World.block_lt_of_cell? W _ k.1) (fun e => by simp only [Option.some.injEq] at e; omega))]
      exact k.1) ⟨f0, hKK _ _ kw b1⟩
  have hgr : Hid (∀ g, (Value.slice p (ofR s L).length c).ownBlock = some g → g ≠ r) := fun g hg e => by
    subst e
    exact hW.not_row hrow0 hg
  have hkl : (keepP P (ofR s L)).length ≤ 1048577 := Nat.le_trans (List.length_filter_le _ _) (by omega)
  have hgb : Hid (∀ g, (Value.slice p (ofR s L).length c).ownBlock = some g → lo ≤ g ∧ g < w.heap.size ∧ g ≠ S ∧ g ≠ B) := fun g hg => by
    have hb := hrow0.lt g hg
    refine ⟨hb.1, hb.2, fun e => ?_, fun e => ?_⟩
    · cases hm : m s with
      | none => rw [hm] at hv; simp only [Option.getD_none] at hv; rw [← hv] at hg; cases hg
      | some u =>
        rw [hm] at hv
        simp only [Option.getD_some] at hv
        exact hR.off s u hm (by rw [hv, hg, e])
    · exact row_not_map hR.map hrow0 (by rw [hg, e])
  obtain ⟨rl, hrl⟩ : ∃ rl, rl = (ofR s L).length := ⟨_, rfl⟩
  obtain ⟨kp, hkp⟩ : ∃ kp, kp = keepP P (ofR s L) := ⟨_, rfl⟩
  obtain ⟨kn, hkn⟩ : ∃ kn, kn = kp.length := ⟨_, rfl⟩
  rw [← hkp, ← hkn, ← hrl] at CD
  rw [← hrl] at hlk
  replace hrl : Hid (rl = (ofR s L).length) := hrl
  replace hkp : Hid (kp = keepP P (ofR s L)) := hkp
  have hkn2 : kn ≤ 1048577 := by rw [hkn, hkp.out]; exact hkl
  replace hkn : Hid (kn = kp.length) := hkn
  clear hrow hrow0 hlen hkl hR1 C1 f0 hdrop1
  go_enter Try.func44, Try.ntmps44
  go_wp2_with (rw [hw1.out])
  refine CD.mono ?_
  rintro e w2 ⟨rfl, O2, g2⟩
  rw [hrl.out] at g2
  have l2 : w2.cell? ⟨S, 0, none⟩ = some (.map (some B)) := by
    rw [World.cell?_of_block (w := w1) (g2.block S (hC1.1) (fun k => (hgb.out S k.symm).2.2.1 rfl))]
    exact l0
  have M2 : MapW w2 B n m := (hR.map.on b1).kept g2 (fun k => (hgb.out B k.symm).2.2.2 rfl)
  have W2 : RangeW w2 B r n m left cnt := (hW.on b1).kept g2 (fun k => (hgb.out B k.symm).2.2.2 rfl) (fun k => hgr.out r k.symm rfl)
  have CL := leaveR_any w2 S B n m s p kn c r left cnt l2 W2 hs hn hkn2 hks
  have C2 : Cells w2 S #[.map (some B), .int .i64 nx] := hC1.grown g2 (fun k => (hgb.out S k.symm).2.2.1 rfl)
  have kk2 : KK w2 := by
    cases ho : (Value.slice p (ofR s L).length c).ownBlock with
    | none => rw [ho] at g2; exact hKG S w1 w2 hlo (hKK _ _ kw b1) ⟨g2.os, g2.tape, g2.output, g2.size, fun k hk _ => g2.block k hk (by simp)⟩
    | some g => rw [ho] at g2; exact hKG g w1 w2 (hgb.out g ho).1 (hKK _ _ kw b1) g2
  have bb2 : Below lo w w2 := (b1.mono (by omega)).grown g2 (by have := b1.size; omega) (fun j hj => (hgb.out j hj).1)
  clear CD hlk l0
  go_wp2_with (fail)
  refine CL.mono ?_
  rintro e w3 ⟨rfl, left', cnt', W3, hc3, hly, hls, t3⟩
  have M3 := W3.map
  have C3 : Cells w3 S #[.map (some B), .int .i64 nx] := C2.grown t3.grown (fun k => hSB (by cases k; rfl))
  have kk3 : KK w3 := hKG B w2 w3 hR.loB kk2 t3.grown
  have bb3 : Below lo w w3 := bb2.grown t3.grown (by have := bb2.size; omega) (fun j hj => by cases hj; exact hR.loB)
  rw [hkn.out, hkp.out] at M3 W3
  rw [hkn.out, hkp.out] at O2
  have R3 := (hR.on b1).drop (P := P) (s := s) (p := p) (c := c) hv g2 O2 (M3.more (Nat.le_succ n)) t3.grown
  clear CL M3 O2 M2 C2 l2
  go_wp2_with (fail)
  first | go_end0 | (simp only [Exit.inBlock, Exit.then]; refine bodyPost_ret (results_none rfl _ _ _) rfl ?_) | refine bodyPost_ret (results_none rfl _ _ _) rfl ?_
  exact ⟨_, left', cnt', rfl, C3, R3.count W3.map, W3, hc3, hly, hls, bb3, kk3⟩

end Go.Proofs.Ytggbmpgpopenoaa
