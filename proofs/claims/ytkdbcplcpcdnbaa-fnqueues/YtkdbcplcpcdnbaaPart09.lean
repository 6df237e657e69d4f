/-
  (*shelf).leave and (*shelf).drop inside a range over the shelf's map. Conditions: a route that is there; a test that turns nothing, whatever it asks.
  What is not due yet, as the program leaves it. Conditions: items that lie there, as many as a law hands over.
  FnExactTake returns true for any list of items and any text, and writes nothing that was there; conditions: lengths that there can be.
  FnExactPut returns true for any list of items and any item, and writes nothing that was there; conditions: lengths that there can be.
  FnExactDue returns true for any list of items and any number, and writes nothing that was there; conditions: lengths that there can be.
  laws.sameItem, laws.sameItems of items that say the same. Conditions: items that lie there.
  What the draws' cursor does, whatever bytes it is over: l1New makes one, l1Byte and l1Below give a number in their bounds and move it on; condition: at most 1048576 bytes.
  What the draws of bytes, of one of some texts or numbers, and of yes or no do, whatever cursor they are given; conditions: at most 255 bytes, at most 256 to pick from.
-/
import Derived.Test.YtkdbcplcpcdnbaaPart07
import Derived.Test.YtkdbcplcpcdnbaaPart08
import Derived.Test.YtkdbcplcpcdnbaaPart04
import Derived.Deep.RegionHeld3
import Derived.Test.YtkdbcplcpcdnbaaPart01
namespace Go.Proofs.Ytkdbcplcpcdnbaa
open Go.RowKit
set_option maxRecDepth 100000

/-- A range over the map in block B, by the iterator in block r: what is still to come. -/
def RangeW (w : World) (B r n : Nat) (m : ByteArray → Option Value) (left : Lit → Bool) (cnt : Nat) : Prop := ∃ D : DataW Value, w.ranges Try.prog 9 tokR B r n D left cnt ∧ SaysM D m
theorem RangeW.map {w : World} {B r n : Nat} {m : ByteArray → Option Value} {left : Lit → Bool} {cnt : Nat} (h : RangeW w B r n m left cnt) : MapW w B n m := by
  obtain ⟨D, h, hm⟩ := h
  exact ⟨D, h.owns, hm⟩
theorem RangeW.kept {w w' : World} {B r n : Nat} {m : ByteArray → Option Value} {left : Lit → Bool} {cnt : Nat} {row : Option Nat} (h : RangeW w B r n m left cnt) (hg : w.grownBy w' row) (hb : some B ≠ row) (hr : some r ≠ row) : RangeW w' B r n m left cnt := by
  obtain ⟨D, h, hm⟩ := h
  exact ⟨D, h.kept hg hb hr, hm⟩
theorem RangeW.on {w w' : World} {B r n : Nat} {m : ByteArray → Option Value} {left : Lit → Bool} {cnt : Nat} (h : RangeW w B r n m left cnt) (b : Below w.heap.size w w') : RangeW w' B r n m left cnt :=
  h.kept (below_grown b none) (by simp) (by simp)
theorem RangeW.not_row {w : World} {B r n : Nat} {m : ByteArray → Option Value} {left : Lit → Bool} {cnt : Nat} (h : RangeW w B r n m left cnt) {lo e size k : Nat} {v : Value} {xs : List Value} (hr : w.ownsRow lo e size v k xs) (hv : v.ownBlock = some r) : False := by
  obtain ⟨D, ⟨es, clock, since, seen, c0, _, _, _, _, hi, _⟩, _⟩ := h
  rcases hr.2 with ⟨rfl, _⟩ | ⟨g, cap, cur, rfl, _, hgg, _⟩
  · cases hv
  · simp only [Value.ownBlock, Option.some.injEq] at hv
    rw [hv, hi] at hgg
    cases hgg
theorem MapW.more {w : World} {B n n' : Nat} {m : ByteArray → Option Value} (h : MapW w B n m) (hn : n ≤ n') : MapW w B n' m := by
  obtain ⟨D, h, hm⟩ := h
  exact ⟨D, h.mono hn, hm⟩
theorem Rows13.count {w : World} {lo S B n n' : Nat} {m : ByteArray → Option Value} {L : List PIt} (h : Rows13 w lo S B n m L) (hM : MapW w B n' m) : Rows13 w lo S B n' m L := ⟨hM, h.loB, h.noRow, h.aRow, h.apart, h.off⟩
theorem kl_same (y : ByteArray) : (kl y).sameKey (kl y) = true := by simp [kl, Lit.sameKey]
theorem kl_other {y s : ByteArray} (h : y ≠ s) : (kl y).sameKey (kl s) = false := by
  rw [Bool.eq_false_iff]
  intro k
  exact h (kl_inj (by simpa [kl, Lit.sameKey] using k))

set_option maxHeartbeats 2000000 in
theorem leaveR_any (w : World) (S B n : Nat) (m : ByteArray → Option Value) (s : ByteArray) (q : Option Addr) (k c r : Nat) (left : Lit → Bool) (cnt : Nat) (hS : w.cell? ⟨S, 0, none⟩ = some (.map (some B))) (hm : RangeW w B r n m left cnt) (hs : s.size ≤ 1048576) (hn : n ≤ 16777216) (hk : k ≤ 1048577) (hks : m s ≠ none) :
    Calls Try.prog 78 #[.pointer (some ⟨S, 0, none⟩), .string s, .slice q k c] w fun e w' => e = .returned (.tuple #[]) ∧ ∃ left' cnt', RangeW w' B r n (fun y => if y = s then (if k = 0 then none else some (.slice q k c)) else m y) left' cnt' ∧ cnt' ≤ cnt ∧ (∀ y, y ≠ s → left' (kl y) = left (kl y)) ∧ (left (kl s) = false → left' (kl s) = false) ∧ w.mapTurned w' B := by
  obtain ⟨D, hrg, hsay⟩ := hm
  by_cases h0 : k = 0
  · subst h0
    obtain ⟨w', cnt', hrun, hM, hc, ht⟩ := hrg.drop keyedS Try.underlying73 (keyS s hs) 0
    have hM' : RangeW w' B r n (fun y => if y = s then (if (0 : Nat) = 0 then none else some (.slice q 0 c)) else m y) (fun x => left x && !x.sameKey (kl s)) cnt' := by
      refine ⟨_, hM, fun z => ?_⟩
      by_cases e : z = s
      · subst e
        refine ⟨fun _ y => Maps.atKey_del_same y, fun u hu => ?_⟩
        simp at hu
      · simp only [if_neg e]
        exact ⟨fun h0 y => by rw [Maps.atKey_del_other (fun k => e (kl_inj k))]; exact (hsay z).1 h0 y, fun u hu y => by rw [Maps.atKey_del_other (fun k => e (kl_inj k))]; exact (hsay z).2 u hu y⟩
    clear hM hrg hsay
    go_enter Try.func78, Try.ntmps78
    go_wp2_with (fail)
    first | go_end0 | (simp only [Exit.inBlock, Exit.then]; refine bodyPost_ret (results_none rfl _ _ _) rfl ?_) | refine bodyPost_ret (results_none rfl _ _ _) rfl ?_
    exact ⟨rfl, _, cnt', hM', hc, fun y hy => by simp [kl_other hy], fun h => by simp [h], ht⟩
  · have hthere : Maps.has D (kl s) = true := by
      rw [hsay.has s]
      cases e : m s with
      | none => exact absurd e hks
      | some v => rfl
    obtain ⟨w', hrun, hM, ht⟩ := ranges_store hrg keyedS Try.underlying73 (by unfold maxLen; omega) (keyS s hs) (val := .slice q k c) (d := .held (.slice q k c)) (ps := []) rfl hthere
    have hM' : RangeW w' B r n (fun y => if y = s then (if k = 0 then none else some (.slice q k c)) else m y) left cnt := by
      refine ⟨_, hM, fun z => ?_⟩
      by_cases e : z = s
      · subst e
        refine ⟨fun h1 => by simp [h0] at h1, fun u hu y => ?_⟩
        simp only [if_true, if_neg h0, Option.some.injEq] at hu
        rw [Maps.atKey_put_same hrg.owns.isMap (keyedS.key (keyS z hs)), hu]
      · simp only [if_neg e]
        exact ⟨fun h0 y => by rw [Maps.atKey_put_other (fun k => e (kl_inj k))]; exact (hsay z).1 h0 y, fun u hu y => by rw [Maps.atKey_put_other (fun k => e (kl_inj k))]; exact (hsay z).2 u hu y⟩
    have h1 : ((k : Int) == 0) = false := by simp; omega
    simp only [if_neg h0] at hM' ⊢
    clear hM hrg hsay h0 hthere
    go_enter Try.func78, Try.ntmps78
    go_wp2_with (fail)
    first | go_end0 | (simp only [Exit.inBlock, Exit.then]; refine bodyPost_ret (results_none rfl _ _ _) rfl ?_) | refine bodyPost_ret (results_none rfl _ _ _) rfl ?_
    exact ⟨rfl, left, cnt, hM', Nat.le_refl _, fun _ _ => rfl, fun h => h, ht⟩

set_option maxHeartbeats 4000000 in
theorem dropR_any (P : ItA → Bool) (G XB : Nat) (KK : World → Prop) (hKK : ∀ W W', KK W → Below W.heap.size W W' → KK W')
    (hdrop1 : ∀ (GB : Nat) (z : PIt) (W : World), W.cell? ⟨GB, 0, none⟩ = some (.func (.func G) #[] #[.pointer (some ⟨XB, 0, none⟩)]) → KK W → Calls Try.prog 77 #[.agg #[.int .i64 z.k, .string z.x.s, .int .i64 z.x.t, .int .i64 z.x.d, .slice z.x.p z.x.n z.x.c], .pointer (some ⟨GB, 0, none⟩)] W fun e w' => e = .returned (.bool (P z.x)) ∧ Below W.heap.size W w')
    (w : World) (lo S B n : Nat) (m : ByteArray → Option Value) (L : List PIt) (nx : Int) (s : ByteArray) (hs : s.size ≤ 1048576) (hn : n ≤ 16777216) (hL : L.length ≤ 1048577) (hC : Cells w S #[.map (some B), .int .i64 nx]) (hlo : lo ≤ S) (hR : Rows13 w lo S B n m L)
    (r : Nat) (left : Lit → Bool) (cnt : Nat) (hW : RangeW w B r n m left cnt) (hks : m s ≠ none)
    (hKG : ∀ g W W', lo ≤ g → KK W → W.grownBy W' (some g) → KK W') (kw : KK w) :
    Calls Try.prog 42 #[.pointer (some ⟨S, 0, none⟩), .string s, .func (.func G) #[] #[.pointer (some ⟨XB, 0, none⟩)]] w fun e w' => ∃ m' left' cnt', e = .returned (.tuple #[]) ∧ Cells w' S #[.map (some B), .int .i64 nx] ∧ Rows13 w' lo S B n m' (outP s P L) ∧ RangeW w' B r n m' left' cnt' ∧ cnt' ≤ cnt ∧ (∀ y, y ≠ s → left' (kl y) = left (kl y)) ∧ (left (kl s) = false → left' (kl s) = false) ∧ Below lo w w' ∧ KK w' := by
  have hSw := hC.1
  have hSB : B ≠ S := cells_not_map hR.map hC (by simp)
  obtain ⟨w1, hw1⟩ : ∃ w1, w1 = w.alloc (.cells #[.func (.func G) #[] #[.pointer (some ⟨XB, 0, none⟩)]] 44) := ⟨_, rfl⟩
  have b1 : Below w.heap.size w w1 := by rw [hw1]; exact made_below _ _ (Below.refl _ _)
  have C1 : Cells w1 w.heap.size #[.func (.func G) #[] #[.pointer (some ⟨XB, 0, none⟩)]] := by rw [hw1]; exact Cells.made _ _ _
  replace hw1 : Hid (w.alloc (.cells #[.func (.func G) #[] #[.pointer (some ⟨XB, 0, none⟩)]] 44) = w1) := hw1.symm
  have hR1 := hR.on b1
  have hC1 := hC.on b1
  have l0 : w1.cell? ⟨S, 0, none⟩ = some (.map (some B)) := (hC1.2 0).1
  have f0 : w1.cell? ⟨w.heap.size, 0, none⟩ = some (.func (.func G) #[] #[.pointer (some ⟨XB, 0, none⟩)]) := (C1.2 0).1
  have hlk := hR1.map.look s hs
  have hrow := hR1.row s
  obtain ⟨p, c, hv⟩ : ∃ p c, (m s).getD (.slice none 0 0) = .slice p (ofR s L).length c := by
    rcases hrow.2 with ⟨e, h0⟩ | ⟨g, cap, cur, e, _⟩
    · rw [e, h0]; exact ⟨none, 0, rfl⟩
    · rw [e]; exact ⟨_, _, rfl⟩
  rw [hv] at hrow hlk
  have hlen := ofR_len s L
  have hrow0 := hR.row s
  rw [hv] at hrow0
  have CD := deleteFunc_any P (fun W => W.cell? ⟨w.heap.size, 0, none⟩ = some (.func (.func G) #[] #[.pointer (some ⟨XB, 0, none⟩)]) ∧ KK W)
    (fun W W' k b => ⟨(b.cell (World.block_lt_of_cell? W _ k.1)).trans k.1, hKK W W' k.2 b⟩) w.heap.size (fun z W k => hdrop1 w.heap.size z W k.1 k.2)
    lo p (ofR s L).length c (ofR s L) w1 (by omega) rfl hrow
    (fun g hg W W' k gr => by
      have hb := hrow0.lt g hg
      refine ⟨?_, hKG g W W' hb.1 k.2 gr⟩
      rw [World.cell?_of_block (w := W) (gr.block w.heap.size (World.block_lt_of_cell? W _ k.1) (fun e => by simp only [Option.some.injEq] at e; omega))]
      exact k.1) ⟨f0, hKK _ _ kw b1⟩
  have hgr : Hid (∀ g, (Value.slice p (ofR s L).length c).ownBlock = some g → g ≠ r) := fun g hg e => by
    subst e
    exact hW.not_row hrow0 hg
  have hkl : (keepP P (ofR s L)).length ≤ 1048577 := Nat.le_trans (List.length_filter_le _ _) (by omega)
  have hgb : Hid (∀ g, (Value.slice p (ofR s L).length c).ownBlock = some g → lo ≤ g ∧ g < w.heap.size ∧ g ≠ S ∧ g ≠ B) := fun g hg => by
    have hb := hrow0.lt g hg
    refine ⟨hb.1, hb.2, fun e => ?_, fun e => ?_⟩
    · cases hm : m s with
      | none => rw [hm] at hv; simp only [Option.getD_none] at hv; rw [← hv] at hg; cases hg
      | some u =>
        rw [hm] at hv
        simp only [Option.getD_some] at hv
        exact hR.off s u hm (by rw [hv, hg, e])
    · exact row_not_map hR.map hrow0 (by rw [hg, e])
  obtain ⟨rl, hrl⟩ : ∃ rl, rl = (ofR s L).length := ⟨_, rfl⟩
  obtain ⟨kp, hkp⟩ : ∃ kp, kp = keepP P (ofR s L) := ⟨_, rfl⟩
  obtain ⟨kn, hkn⟩ : ∃ kn, kn = kp.length := ⟨_, rfl⟩
  rw [← hkp, ← hkn, ← hrl] at CD
  rw [← hrl] at hlk
  replace hrl : Hid (rl = (ofR s L).length) := hrl
  replace hkp : Hid (kp = keepP P (ofR s L)) := hkp
  have hkn2 : kn ≤ 1048577 := by rw [hkn, hkp.out]; exact hkl
  replace hkn : Hid (kn = kp.length) := hkn
  clear hrow hrow0 hlen hkl hR1 C1 f0 hdrop1
  go_enter Try.func42, Try.ntmps42
  go_wp2_with (rw [hw1.out])
  refine CD.mono ?_
  rintro e w2 ⟨rfl, O2, g2⟩
  rw [hrl.out] at g2
  have l2 : w2.cell? ⟨S, 0, none⟩ = some (.map (some B)) := by
    rw [World.cell?_of_block (w := w1) (g2.block S (hC1.1) (fun k => (hgb.out S k.symm).2.2.1 rfl))]
    exact l0
  have M2 : MapW w2 B n m := (hR.map.on b1).kept g2 (fun k => (hgb.out B k.symm).2.2.2 rfl)
  have W2 : RangeW w2 B r n m left cnt := (hW.on b1).kept g2 (fun k => (hgb.out B k.symm).2.2.2 rfl) (fun k => hgr.out r k.symm rfl)
  have CL := leaveR_any w2 S B n m s p kn c r left cnt l2 W2 hs hn hkn2 hks
  have C2 : Cells w2 S #[.map (some B), .int .i64 nx] := hC1.grown g2 (fun k => (hgb.out S k.symm).2.2.1 rfl)
  have kk2 : KK w2 := by
    cases ho : (Value.slice p (ofR s L).length c).ownBlock with
    | none => rw [ho] at g2; exact hKG S w1 w2 hlo (hKK _ _ kw b1) ⟨g2.os, g2.tape, g2.output, g2.size, fun k hk _ => g2.block k hk (by simp)⟩
    | some g => rw [ho] at g2; exact hKG g w1 w2 (hgb.out g ho).1 (hKK _ _ kw b1) g2
  have bb2 : Below lo w w2 := (b1.mono (by omega)).grown g2 (by have := b1.size; omega) (fun j hj => (hgb.out j hj).1)
  clear CD hlk l0
  go_wp2_with (fail)
  refine CL.mono ?_
  rintro e w3 ⟨rfl, left', cnt', W3, hc3, hly, hls, t3⟩
  have M3 := W3.map
  have C3 : Cells w3 S #[.map (some B), .int .i64 nx] := C2.grown t3.grown (fun k => hSB (by cases k; rfl))
  have kk3 : KK w3 := hKG B w2 w3 hR.loB kk2 t3.grown
  have bb3 : Below lo w w3 := bb2.grown t3.grown (by have := bb2.size; omega) (fun j hj => by cases hj; exact hR.loB)
  rw [hkn.out, hkp.out] at M3 W3
  rw [hkn.out, hkp.out] at O2
  have R3 := (hR.on b1).drop (P := P) (s := s) (p := p) (c := c) hv g2 O2 (M3.more (Nat.le_succ n)) t3.grown
  clear CL M3 O2 M2 C2 l2
  go_wp2_with (fail)
  first | go_end0 | (simp only [Exit.inBlock, Exit.then]; refine bodyPost_ret (results_none rfl _ _ _) rfl ?_) | refine bodyPost_ret (results_none rfl _ _ _) rfl ?_
  exact ⟨_, left', cnt', rfl, C3, R3.count W3.map, W3, hc3, hly, hls, bb3, kk3⟩

end Go.Proofs.Ytkdbcplcpcdnbaa

namespace Go.Proofs.Ytkdbcplcpcdnbaa
open Go.RowKit
set_option maxRecDepth 100000

theorem due1_any (x : ItA) (XB : Nat) (now : Int) (w : World) (h : w.cell? ⟨XB, 0, none⟩ = some (.int .i64 now)) :
    Calls Try.prog 53 #[.agg #[.string x.s, .int .i64 x.t, .int .i64 x.d, .slice x.p x.n x.c], .pointer (some ⟨XB, 0, none⟩)] w fun e w' => e = .returned (.bool (decide (x.d < now))) ∧ Below w.heap.size w w' := by
  have kA : ∀ o, Below w.heap.size w (w.alloc o) := fun o => made_below _ _ (Below.refl _ _)
  have h' : ∀ o, (w.alloc o).cell? ⟨XB, 0, none⟩ = some (.int .i64 now) := fun o => ((kA o).cell (World.block_lt_of_cell? w _ h)).trans h
  go_enter Try.func53, Try.ntmps53
  go_wp2_with (fail)
  go_ret
  exact ⟨rfl, kA _⟩

/-- What is left while the range is under way. -/
def wayL (now : Int) (left : Lit → Bool) (L : List PIt) : List PIt := L.filter (fun z => left (kl z.x.s) || !decide (z.x.d < now))
theorem wayL_sub (now : Int) (left : Lit → Bool) (L : List PIt) : (wayL now left L).Sublist L := List.filter_sublist
theorem wayL_all (now : Int) (left : Lit → Bool) (L : List PIt) (h : ∀ z ∈ L, left (kl z.x.s) = true) : wayL now left L = L := by
  rw [wayL, List.filter_eq_self]
  intro z hz
  simp [h z hz]
theorem wayL_none (now : Int) (left : Lit → Bool) (L : List PIt) (h : ∀ s, left (kl s) = false) : (wayL now left L).map PIt.x = dueL now (L.map PIt.x) := by
  rw [wayL, dueL, List.filter_map]
  congr 1
  refine List.filter_congr fun z _ => ?_
  rw [h, Bool.false_or]
  show (!decide (z.x.d < now)) = decide (now ≤ z.x.d)
  by_cases e : z.x.d < now
  · have : ¬ now ≤ z.x.d := by omega
    simp [e, this]
  · have : now ≤ z.x.d := by omega
    simp [e, this]
theorem wayL_step (now : Int) (left left' : Lit → Bool) (L : List PIt) (s : ByteArray) (hs : left (kl s) = true) (h1 : left' (kl s) = false) (h2 : ∀ y, y ≠ s → left' (kl y) = left (kl y)) : outP s (fun y => decide (y.d < now)) (wayL now left L) = wayL now left' L := by
  unfold outP wayL
  rw [List.filter_filter]
  refine List.filter_congr fun z _ => ?_
  by_cases e : z.x.s = s
  · rw [e, hs, h1]; simp
  · rw [h2 _ e]; simp [e]

set_option maxHeartbeats 8000000 in
theorem implDue_any (p : Option Addr) (n c : Nat) (its : List ItA) (now : Int) (w : World) (hn : n ≤ 1048576) (hl : its.length = n) (h : ItemsIn w p n its) (li : ∀ y ∈ its, y.Lies w) (fit : ∀ y ∈ its, y.n ≤ 1048576) (hsz : ∀ y ∈ its, y.s.size ≤ 1048576) :
    Calls Try.prog 14 #[.slice p n c, .int .i64 now] w fun e w' => ∃ (q : Option Addr) (cq : Nat) (its' : List ItA), e = .returned (.slice q (dueL now its).length cq) ∧
      OwnItems w' w.heap.size w'.heap.size (.slice q (dueL now its).length cq) (dueL now its).length its' ∧ Hid (its'.map ItA.con = (dueL now its).map ItA.con) ∧ Below w.heap.size w w' := by
  obtain ⟨w1, hw1⟩ : ∃ w1, w1 = w.alloc (.cells #[.int .i64 now] 3) := ⟨_, rfl⟩
  have b1 : Below w.heap.size w w1 := by rw [hw1]; exact made_below _ _ (Below.refl _ _)
  have C1 : Cells w1 w.heap.size #[.int .i64 now] := by rw [hw1]; exact Cells.made _ _ _
  have hRl : w.heap.size < w1.heap.size := C1.1
  replace hw1 : Hid (w.alloc (.cells #[.int .i64 now] 3) = w1) := hw1.symm
  have CS := shelved_any p n c its w1 hn hl (itemsIn_on h b1) hsz
  have hps := plL_items its
  have hpl := plL_length its
  go_enter Try.func14, Try.ntmps14
  go_wp2_with (rw [hw1.out])
  refine CS.mono ?_
  rintro e w2 ⟨S, rfl, hSh, b2⟩
  have k2 := below_on b1 b2
  have C2 := C1.on b2
  clear CS hw1
  obtain ⟨XB, hXB⟩ : ∃ XB, XB = w.heap.size := ⟨_, rfl⟩
  obtain ⟨lo, hlo⟩ : ∃ lo, lo = w1.heap.size := ⟨_, rfl⟩
  rw [← hXB] at C1 C2 hRl ⊢
  rw [← hlo] at hSh hRl
  have hXw : w.heap.size ≤ XB := by omega
  have hlow : lo ≤ w2.heap.size := by have := b2.size; omega
  clear hXB hlo C1 b2 b1
  obtain ⟨B, nn, m, hC, hS, hnn, hR⟩ := hSh
  have l2 : w2.cell? ⟨S, 0, none⟩ = some (.map (some B)) := (hC.2 0).1
  have c0 : w2.cell? ⟨XB, 0, none⟩ = some (.int .i64 now) := (C2.2 0).1
  obtain ⟨D, hown, hsay⟩ := hR.map
  have hSw := hC.1
  go_wp2_with (first
    | (at_range; refine wpList_range_own _ rfl _ 73 rfl 9 76 keyedS Try.underlying73 _ B nn _ rfl hown ?_; intro w3 hrg3 hg3 hs3)
    | go_in)
  go_frame
  obtain ⟨r, hr0⟩ : ∃ r, r = w2.heap.size := ⟨_, rfl⟩
  rw [← hr0] at hrg3 ⊢
  have b3 : Below w2.heap.size w2 w3 := (Below.refl _ _).grown hg3 (Nat.le_refl _) (fun _ h => by cases h)
  have hrlo : lo ≤ r := by omega
  have hrS : r ≠ S := by omega
  have hrX : r ≠ XB := by omega
  have hC3 := hC.on b3
  have hR3 := hR.on b3
  have k3 : Below w.heap.size w w3 := below_on k2 b3
  have c3 : w3.cell? ⟨XB, 0, none⟩ = some (.int .i64 now) := ((C2.on b3).2 0).1
  have hrows : ∀ s v, m s = some v → v.ownBlock ≠ some r := fun s v hv e => by
    have hr := hR.row s
    rw [hv] at hr
    have := (hr.lt r e).2
    omega
  have hst : wayL now (Maps.has D) (plL its) = plL its := wayL_all _ _ _ fun z hz => by
    rw [hsay.has z.x.s, hR.has]
    refine decide_eq_true fun e => ?_
    have : z ∈ ofR z.x.s (plL its) := List.mem_filter.2 ⟨hz, by simp⟩
    rw [e] at this
    simp at this
  rw [← hst] at hR3
  clear l2 c0 hown hg3 hs3 hC hR C2 k2 hst hr0 b3 hlow hSw
  go_loopw [6] (fun _ wr => ∃ (left : Lit → Bool) (cnt : Nat) (m' : ByteArray → Option Value), RangeW wr B r nn m' left cnt ∧ Rows13 wr lo S B nn m' (wayL now left (plL its)) ∧ Cells wr S #[.map (some B), .int .i64 n] ∧ wr.cell? ⟨XB, 0, none⟩ = some (.int .i64 now) ∧ Below w.heap.size w wr) (fun _ wr => wr.rangeLeft B r)
  case atStart => exact ⟨_, _, m, ⟨D, hrg3, hsay⟩, hR3, hC3, c3, k3⟩
  case round =>
    clear hrg3 hR3 hC3 c3 k3 hsay hrows
    obtain ⟨left, cnt, m', hW, hR, hC, hc, hbw⟩ := hrel
    obtain ⟨D', hrg, hsay⟩ := hW
    have hsz3 : r < wr.heap.size := hrg.lt
    have hcnt : wr.rangeLeft B r = cnt := hrg.left_eq
    go_wp2_with (first
      | (at_next; refine wpList_next_ranges _ rfl _ rfl 9 keyedS tokR Value.string (fun v : Value => v) (fun key l hk => by obtain ⟨s, e, _⟩ := keyS_inv hk; exact ⟨s, e⟩) (fun v _ _ => ⟨v, rfl⟩) B r nn D' left cnt rfl hrg ?_ ?_)
      | go_in)
    · intro _ hl0
      have hmap : Hid ((wayL now left (plL its)).map PIt.x = dueL now its) := by rw [Hid, wayL_none now left _ (fun s => hl0 _), hps]
      have hsub := wayL_sub now left (plL its)
      obtain ⟨L', hL'⟩ : ∃ L', L' = wayL now left (plL its) := ⟨_, rfl⟩
      rw [← hL'] at hR hmap hsub
      have hlen : L'.length ≤ n := by have := hsub.length_le; omega
      have l4 : wr.cell? ⟨S, 0, none⟩ = some (.map (some B)) := (hC.2 0).1
      have CTo := told_any wr S B nn m' L' (by omega) ((plL_inc its).sublist hsub) l4 hR.weak
      rw [hmap.out] at CTo
      obtain ⟨LL, hLL⟩ : ∃ LL, LL = dueL now its := ⟨_, rfl⟩
      have hLn : LL.length = L'.length := by rw [hLL, ← hmap.out, List.length_map]
      rw [← hLL, ← hLn] at CTo
      have hmem : ∀ y ∈ LL, y ∈ its := fun y hy => by rw [hLL] at hy; exact (List.mem_filter.1 hy).1
      rw [← hLn] at hlen
      replace hLL : Hid (LL = dueL now its) := hLL
      have lis : ∀ y ∈ LL, y.Lies w := fun y hy => li y (hmem y hy)
      have fits : ∀ y ∈ LL, y.n ≤ 1048576 := fun y hy => fit y (hmem y hy)
      clear hR hC hrg hsay hmem hLn hL' hsub hmap hl0 hcnt
      go_wp2_with (fail)
      refine CTo.mono ?_
      rintro e w5 ⟨g5, rfl, r5, b5⟩
      have k5 := below_on hbw b5
      have I5 := items_of_row r5 rfl
      obtain ⟨nL, hnL⟩ : ∃ nL, nL = LL.length := ⟨_, rfl⟩
      rw [← hnL] at I5 hlen ⊢
      have CC := copiedItems_own (some ⟨g5, 0, none⟩) nL nL LL w5 (by omega) hnL.symm I5 (fun y hy => (lis y hy).on k5) fits
      replace hnL : Hid (nL = LL.length) := hnL
      have z5 := k5.size
      clear CTo l4 r5
      go_wp2_with (fail)
      refine CC.mono ?_
      rintro e w7 ⟨p7, c7, A, rfl, o7, eA, b7⟩
      have k7 := below_on k5 b7
      clear CC
      go_wp2_with (fail)
      go_ret
      rw [← hLL.out, ← hnL.out]
      exact ⟨p7, c7, A, rfl, o7.wide z5 (Nat.le_refl _), eA, k7⟩
    · intro s v kl' yd yp w2 cnt2 hkey hlk hv hat hrg2 hlt2 hg2 hs2 hen
      obtain ⟨s', e1, rfl⟩ := keyS_inv hkey
      simp only [Value.string.injEq] at e1
      subst e1
      simp only [tokR, Option.some.injEq, Prod.mk.injEq] at hv
      obtain ⟨rfl, rfl⟩ := hv
      have hms := hsay.inv hat
      have hne : ofR s (wayL now left (plL its)) ≠ [] := fun e => by rw [hR.noRow s e] at hms; cases hms
      have hss : s.size ≤ 1048576 := by
        obtain ⟨z, hz⟩ := List.exists_mem_of_ne_nil _ hne
        obtain ⟨hz1, hz2⟩ := List.mem_filter.1 hz
        simp only [decide_eq_true_eq] at hz2
        rw [← hz2]
        exact hsz z.x (plL_mem ((wayL_sub now left (plL its)).subset hz1))
      have hW0 : RangeW wr B r nn m' left cnt := ⟨D', hrg, hsay⟩
      have W2 : RangeW w2 B r nn m' (fun x => left x && !x.sameKey (kl s)) cnt2 := ⟨D', hrg2, hsay⟩
      have hR2 : Rows13 w2 lo S B nn m' (wayL now left (plL its)) := hR.kept hg2 (fun e => hrg.ne (by cases e; rfl)) (fun y u hy e => by
        have hr := hR.row y
        rw [hy] at hr
        exact hW0.not_row hr e)
      have hC2 := hC.grown hg2 (fun e => hrS (by cases e; rfl))
      have hc2 : w2.cell? ⟨XB, 0, none⟩ = some (.int .i64 now) := by
        rw [World.cell?_of_block (w := wr) (hg2.block XB (World.block_lt_of_cell? wr _ hc) (fun e => hrX (by cases e; rfl)))]
        exact hc
      have hbw2 : Below w.heap.size w w2 := hbw.grown hg2 hbw.size (fun j hj => by cases hj; omega)
      have hlen : (wayL now left (plL its)).length ≤ n := by have := (wayL_sub now left (plL its)).length_le; omega
      have CD := dropR_any (fun y => decide (y.d < now)) 53 XB (fun W => W.cell? ⟨XB, 0, none⟩ = some (.int .i64 now)) (fun W W' k b => (b.cell (World.block_lt_of_cell? W _ k)).trans k)
        (fun GB z W hf k => drop1_due (fun y => decide (y.d < now)) XB GB (fun W => W.cell? ⟨XB, 0, none⟩ = some (.int .i64 now)) (fun W W' k b => (b.cell (World.block_lt_of_cell? W _ k)).trans k) (fun y W k => due1_any y XB now W k) z W hf k)
        w2 lo S B nn m' (wayL now left (plL its)) n s hss (by omega) (by omega) hC2 hS hR2 r _ cnt2 W2 (by rw [hms]; simp)
        (fun g W W' hg k gr => by
          rw [World.cell?_of_block (w := W) (gr.block XB (World.block_lt_of_cell? W _ k) (fun e => by simp only [Option.some.injEq] at e; omega))]
          exact k) hc2
      have hle : ¬ cnt2 ≥ cnt := by omega
      clear hR hC hc hrg hsay hrg2 hat hms hne hW0 W2 hR2 hC2 hc2 hg2 hbw hlen hss
      go_wp2_with (fail)
      refine CD.mono ?_
      rintro e w4 ⟨m4, left4, cnt4, rfl, hC4, hR4, hW4, hcl4, hly4, hls4, b4, hc4⟩
      have hst := wayL_step now left left4 (plL its) s hlk (hls4 (by simp [kl_same])) (fun y hy => by rw [hly4 y hy]; simp [kl_other hy])
      rw [hst] at hR4
      have k4 : Below w.heap.size w w4 := hbw2.trans (b4.mono (by omega))
      have hm4 : w4.rangeLeft B r = cnt4 := by obtain ⟨D4, h4, _⟩ := hW4; exact h4.left_eq
      clear CD hst hly4 hls4 b4 hbw2
      go_wp2_with (fail)
      go_roundw
      case rel => exact ⟨left4, cnt4, m4, hW4, hR4, hC4, hc4, k4⟩
      case measure => rw [hm4, hcnt]; omega

end Go.Proofs.Ytkdbcplcpcdnbaa

namespace Go.Proofs.Ytkdbcplcpcdnbaa
open Go.RowKit
set_option maxRecDepth 100000

theorem takeF_con (s : ByteArray) : ∀ {its its' : List ItA}, its'.map ItA.con = its.map ItA.con → (takeF s its').map (fun z => (z.1.con, z.2.map ItA.con)) = (takeF s its).map (fun z => (z.1.con, z.2.map ItA.con))
  | [], [], _ => rfl
  | [], _ :: _, h => by simp at h
  | _ :: _, [], h => by simp at h
  | x :: r, x' :: r', h => by
    rw [List.map_cons, List.map_cons, List.cons.injEq] at h
    have ih := takeF_con s h.2
    have hs : x'.s = x.s := congrArg Prod.fst h.1
    simp only [takeF, hs]
    by_cases e : x.s = s
    · simp [e, h.1, h.2]
    · simp only [e, if_false, Option.map_map]
      have e2 := congrArg (Option.map fun (z : Con × List Con) => (z.1, x.con :: z.2)) ih
      rw [Option.map_map, Option.map_map] at e2
      have f : ((fun (z : ItA × List ItA) => (z.1.con, z.2.map ItA.con)) ∘ fun (z : ItA × List ItA) => (z.1, x' :: z.2)) = ((fun (z : Con × List Con) => (z.1, x.con :: z.2)) ∘ fun (z : ItA × List ItA) => (z.1.con, z.2.map ItA.con)) := by funext z; simp [h.1]
      have f2 : ((fun (z : ItA × List ItA) => (z.1.con, z.2.map ItA.con)) ∘ fun (z : ItA × List ItA) => (z.1, x :: z.2)) = ((fun (z : Con × List Con) => (z.1, x.con :: z.2)) ∘ fun (z : ItA × List ItA) => (z.1.con, z.2.map ItA.con)) := by funext z; simp
      rw [f, f2]
      exact e2
theorem takeF_sub (s : ByteArray) : ∀ {its : List ItA} {x : ItA} {r : List ItA}, takeF s its = some (x, r) → x ∈ its ∧ r.Sublist its
  | [], _, _, h => by simp [takeF] at h
  | y :: t, x, r, h => by
    simp only [takeF] at h
    by_cases e : y.s = s
    · rw [if_pos e] at h
      simp only [Option.some.injEq, Prod.mk.injEq] at h
      rw [← h.1, ← h.2]
      exact ⟨by simp, List.sublist_cons_self _ _⟩
    · rw [if_neg e] at h
      cases hT : takeF s t with
      | none => rw [hT] at h; simp at h
      | some z =>
        rw [hT] at h
        simp only [Option.map_some, Option.some.injEq, Prod.mk.injEq] at h
        have ih := takeF_sub s (its := t) (x := z.1) (r := z.2) hT
        rw [← h.1, ← h.2]
        exact ⟨by simp [ih.1], ih.2.cons_cons _⟩
/-- What is taken is told by what the items say. -/
theorem take_con (s : ByteArray) {its its' : List ItA} (h : its'.map ItA.con = its.map ItA.con) : (takeX s its').con = (takeX s its).con ∧ (takeL s its').map ItA.con = (takeL s its).map ItA.con ∧ (takeF s its').isSome = (takeF s its).isSome := by
  have e := takeF_con s h
  unfold takeX takeL
  cases h1 : takeF s its with
  | none =>
    cases h2 : takeF s its' with
    | none => exact ⟨rfl, h, rfl⟩
    | some z => rw [h1, h2] at e; simp at e
  | some y =>
    cases h2 : takeF s its' with
    | none => rw [h1, h2] at e; simp at e
    | some z =>
      rw [h1, h2] at e
      simp only [Option.map_some, Option.some.injEq, Prod.mk.injEq] at e
      exact ⟨e.1, e.2, rfl⟩
theorem take_small (s : ByteArray) {its : List ItA} (h : ((its.map ItA.con).map conN).sum ≤ 1048576) : conN (takeX s its).con ≤ 1048576 ∧ (((takeL s its).map ItA.con).map conN).sum ≤ 1048576 ∧ (takeL s its).length ≤ its.length := by
  unfold takeX takeL
  cases h1 : takeF s its with
  | none => exact ⟨Nat.zero_le _, h, Nat.le_refl _⟩
  | some y =>
    have hs := takeF_sub s (x := y.1) (r := y.2) h1
    exact ⟨Nat.le_trans (mem_sum (List.mem_map.2 ⟨_, hs.1, rfl⟩)) h, Nat.le_trans (sub_sum ((hs.2.map _).map _)) h, hs.2.length_le⟩

end Go.Proofs.Ytkdbcplcpcdnbaa

namespace Go.Proofs.Ytkdbcplcpcdnbaa
open Go.RowKit
set_option maxRecDepth 100000

theorem putL_con {x y : ItA} (hxy : x.con = y.con) : ∀ {its its' : List ItA}, its'.map ItA.con = its.map ItA.con → (putL x its').map ItA.con = (putL y its).map ItA.con := fun {its its'} h => by
  have e := hxy
  simp only [ItA.con, Prod.mk.injEq] at e
  have hk : ∀ {its its' : List ItA}, its'.map ItA.con = its.map ItA.con → (putK x its').map ItA.con = (putK y its).map ItA.con := fun {its its'} h => by
    have f : ∀ (z : ItA) (l : List ItA), (putK z l).map ItA.con = (l.map ItA.con).filter (fun (c : Con) => !(decide (0 < z.t) && (decide (c.1 = z.s) && decide (c.2.1 = z.t)))) := fun z l => by
      rw [putK, List.filter_map]; rfl
    rw [f, f, h, e.1, e.2.1]
  rw [putL, putL, List.map_append, List.map_append, hk h]
  simp [hxy]
theorem putL_lens {x : ItA} {its : List ItA} (h : ∀ y ∈ its, y.xs.length = y.n) (hx : x.xs.length = x.n) : ∀ y ∈ putL x its, y.xs.length = y.n := fun y hy => by
  rcases List.mem_append.1 hy with hy | hy
  · exact h y (List.mem_filter.1 hy).1
  · rw [List.mem_singleton] at hy; rw [hy]; exact hx
theorem putR_small {y : ItA} {its : List ItA} {N : Nat} (h : ((its.map ItA.con).map conN).sum + conN y.con ≤ N) : (((putR y its).map ItA.con).map conN).sum ≤ N := by
  have hp : (((putL y its).map ItA.con).map conN).sum ≤ N := by
    rw [putL, List.map_append, List.map_append, List.sum_append]
    have h1 : (((putK y its).map ItA.con).map conN).sum ≤ ((its.map ItA.con).map conN).sum := sub_sum ((List.filter_sublist.map _).map _)
    have h2 : (([y].map ItA.con).map conN).sum = conN y.con := by simp
    omega
  unfold putR
  split
  · exact hp
  · omega
theorem putR_len (y : ItA) (its : List ItA) (h : its.length ≤ 1048576) : (putR y its).length ≤ 1048576 := by
  unfold putR
  by_cases e : qB (putL y its) = true
  · rw [if_pos e]
    have : QOk (putL y its) := by
      refine Classical.byContradiction fun q => ?_
      rw [qB_false q] at e
      cases e
    have := this.1
    omega
  · rw [if_neg e]; exact h

end Go.Proofs.Ytkdbcplcpcdnbaa

namespace Go.Proofs.Ytkdbcplcpcdnbaa
open Go.RowKit
set_option maxRecDepth 100000

theorem due_con (now : Int) {its its' : List ItA} (h : its'.map ItA.con = its.map ItA.con) : (dueL now its').map ItA.con = (dueL now its).map ItA.con := by
  have f : ∀ l : List ItA, (dueL now l).map ItA.con = (l.map ItA.con).filter (fun (c : Con) => decide (now ≤ c.2.2.1)) := fun l => by
    rw [dueL, List.filter_map]; rfl
  rw [f, f, h]

end Go.Proofs.Ytkdbcplcpcdnbaa

namespace Go.Proofs.Ytkdbcplcpcdnbaa
open Go.RowKit
set_option maxRecDepth 100000

theorem sameItem_yes (s : ByteArray) (t d : Int) (p p' : Option Addr) (n c c' : Nat) (xs : List Int) (w : World) (hx : xs.length = n) (h1 : BytesIn w p n xs) (h2 : BytesIn w p' n xs) :
    Calls Try.prog 19 #[.agg #[.string s, .int .i64 t, .int .i64 d, .slice p n c], .agg #[.string s, .int .i64 t, .int .i64 d, .slice p' n c']] w fun z w' => z = .returned (.bool true) ∧ Below w.heap.size w w' := by
  obtain ⟨B1, hB1⟩ : ∃ B1, B1 = (w.alloc (.cells #[.string s, .int .i64 t, .int .i64 d, .slice p n c] 26)).heap.size := ⟨_, rfl⟩
  have eB1 : B1 = w.heap.size + 1 := by rw [hB1]; simp
  obtain ⟨W, hW⟩ : ∃ W, W = (w.alloc (.cells #[.string s, .int .i64 t, .int .i64 d, .slice p n c] 26)).alloc (.cells #[.string s, .int .i64 t, .int .i64 d, .slice p' n c'] 26) := ⟨_, rfl⟩
  have b2 : Below (w.alloc (.cells #[.string s, .int .i64 t, .int .i64 d, .slice p n c] 26)).heap.size (w.alloc (.cells #[.string s, .int .i64 t, .int .i64 d, .slice p n c] 26)) W := by rw [hW]; exact made_below _ _ (Below.refl _ _)
  have C0 : Cells W w.heap.size #[.string s, .int .i64 t, .int .i64 d, .slice p n c] := (Cells.made w _ _).on b2
  have C1 : Cells W B1 #[.string s, .int .i64 t, .int .i64 d, .slice p' n c'] := by rw [hW, hB1]; exact Cells.made _ _ _
  have bW : Below w.heap.size w W := made_below _ _ b2
  have l0 : W.cell? ⟨w.heap.size, 0, none⟩ = some (.string s) := (C0.2 0).1
  have l1 : W.cell? ⟨w.heap.size, 1, none⟩ = some (.int .i64 t) := (C0.2 1).1
  have l2 : W.cell? ⟨w.heap.size, 2, none⟩ = some (.int .i64 d) := (C0.2 2).1
  have l3 : W.cell? ⟨w.heap.size, 3, none⟩ = some (.slice p n c) := (C0.2 3).1
  have m0 : W.cell? ⟨w.heap.size + 1, 0, none⟩ = some (.string s) := by rw [← eB1]; exact (C1.2 0).1
  have m1 : W.cell? ⟨w.heap.size + 1, 1, none⟩ = some (.int .i64 t) := by rw [← eB1]; exact (C1.2 1).1
  have m2 : W.cell? ⟨w.heap.size + 1, 2, none⟩ = some (.int .i64 d) := by rw [← eB1]; exact (C1.2 2).1
  have m3 : W.cell? ⟨w.heap.size + 1, 3, none⟩ = some (.slice p' n c') := by rw [← eB1]; exact (C1.2 3).1
  have t1 := text_of (P := Try.prog) (in_below h1 bW) hx c 22 5 9 Try.underlying22 Try.underlying5 Try.underlying9
  have t2 := text_of (P := Try.prog) (in_below h2 bW) hx c' 22 5 9 Try.underlying22 Try.underlying5 Try.underlying9
  generalize strOfNums xs = SX at t1 t2
  have tS : (s.toList == s.toList) = true := by simp
  have tX : (SX.toList == SX.toList) = true := by simp
  replace hW : Hid ((w.alloc (.cells #[.string s, .int .i64 t, .int .i64 d, .slice p n c] 26)).alloc (.cells #[.string s, .int .i64 t, .int .i64 d, .slice p' n c'] 26) = W) := hW.symm
  clear h1 h2 C0 C1 b2 hB1 eB1 hx
  go_enter Try.func19, Try.ntmps19
  go_wp2_with (rw [hW.out])
  go_ret
  exact ⟨rfl, bW⟩

set_option maxHeartbeats 4000000 in
theorem sameItems_yes (p p' : Option Addr) (n c c' : Nat) (its its' : List ItA) (w : World) (hn : n ≤ 1048577) (hl : its.length = n) (hl' : its'.length = n) (h : ItemsIn w p n its) (h' : ItemsIn w p' n its') (li : ∀ x ∈ its, x.Lies w) (li' : ∀ x ∈ its', x.Lies w) (hc : its.map ItA.con = its'.map ItA.con) :
    Calls Try.prog 18 #[.slice p n c, .slice p' n c'] w fun e w' => e = .returned (.bool true) ∧ Below w.heap.size w w' := by
  have hd : ((n : Int) != (n : Int)) = false := by simp
  replace hc : Hid (its.map ItA.con = its'.map ItA.con) := hc
  go_enter Try.func18, Try.ntmps18
  go_wp2_with (fail)
  go_loopw [5] (fun i wr => ∃ k : Nat, k ≤ n ∧ i = .int .i64 k ∧ Below w.heap.size w wr) (fun i _ => n - (intOf i).toNat)
  case atStart => exact ⟨0, Nat.zero_le _, rfl, Below.refl _ _⟩
  case round =>
    obtain ⟨k, hk, rfl, hbel⟩ := hrel
    by_cases hlt : k < n
    · obtain ⟨b, o, rfl, hcs⟩ := itemsIn_on h hbel (by omega)
      obtain ⟨b', o', rfl, hcs'⟩ := itemsIn_on h' hbel (by omega)
      obtain ⟨x, hx⟩ : ∃ x, its.getD k default = x := ⟨_, rfl⟩
      obtain ⟨y, hy⟩ : ∃ y, its'.getD k default = y := ⟨_, rfl⟩
      obtain ⟨l0, l1, l2, l3⟩ := ItemsIn.at hcs hlt hx
      obtain ⟨m0, m1, m2, m3⟩ := ItemsIn.at hcs' hlt hy
      have lx := (li x (hx ▸ getD_mem (by omega))).on hbel
      have ly := (li' y (hy ▸ getD_mem (by omega))).on hbel
      have hxy : x.con = y.con := by
        rw [← hx, ← hy]
        have := congrArg (fun l => l.getD k (default : ItA).con) hc.out
        simpa [List.getD_eq_getElem?_getD, List.getElem?_map, Option.getD_map] using this
      obtain ⟨s, t, d, xp, xn, xc, xs⟩ := x
      obtain ⟨s', t', d', yp, yn, yc, ys⟩ := y
      obtain ⟨_, lx1, lx2⟩ := lx
      obtain ⟨_, ly1, ly2⟩ := ly
      simp only [ItA.con, Prod.mk.injEq] at hxy
      obtain ⟨rfl, rfl, rfl, rfl⟩ := hxy
      dsimp only at l0 l1 l2 l3 m0 m1 m2 m3 lx1 lx2 ly1 ly2
      have en : yn = xn := by omega
      subst en
      have C := fun X h1 h2 => sameItem_yes s t d xp yp yn xc yc xs X lx1 h1 h2
      have bdr : Below wr.heap.size wr wr.drew := (Below.refl _ _).drew
      have HK : ∀ w', Below wr.heap.size wr w' → w'.cell? ⟨b, o + k * 4, none⟩ = some (.string s) ∧ w'.cell? ⟨b, o + k * 4 + 1, none⟩ = some (.int .i64 t) ∧ w'.cell? ⟨b, o + k * 4 + 2, none⟩ = some (.int .i64 d) ∧ w'.cell? ⟨b, o + k * 4 + 3, none⟩ = some (.slice xp yn xc) ∧ w'.cell? ⟨b', o' + k * 4, none⟩ = some (.string s) ∧ w'.cell? ⟨b', o' + k * 4 + 1, none⟩ = some (.int .i64 t) ∧ w'.cell? ⟨b', o' + k * 4 + 2, none⟩ = some (.int .i64 d) ∧ w'.cell? ⟨b', o' + k * 4 + 3, none⟩ = some (.slice yp yn yc) := fun w' hX => ⟨(hX.cell (World.block_lt_of_cell? wr _ l0)).trans l0, (hX.cell (World.block_lt_of_cell? wr _ l1)).trans l1, (hX.cell (World.block_lt_of_cell? wr _ l2)).trans l2, (hX.cell (World.block_lt_of_cell? wr _ l3)).trans l3, (hX.cell (World.block_lt_of_cell? wr _ m0)).trans m0, (hX.cell (World.block_lt_of_cell? wr _ m1)).trans m1, (hX.cell (World.block_lt_of_cell? wr _ m2)).trans m2, (hX.cell (World.block_lt_of_cell? wr _ m3)).trans m3⟩
      clear hcs hcs' h h' hx hy li li' hc
      go_wp2_with (fail)
      go_region_held3 (fun w' => w'.cell? ⟨b, o + k * 4, none⟩ = some (.string s) ∧ w'.cell? ⟨b, o + k * 4 + 1, none⟩ = some (.int .i64 t) ∧ w'.cell? ⟨b, o + k * 4 + 2, none⟩ = some (.int .i64 d) ∧ w'.cell? ⟨b, o + k * 4 + 3, none⟩ = some (.slice xp yn xc) ∧ w'.cell? ⟨b', o' + k * 4, none⟩ = some (.string s) ∧ w'.cell? ⟨b', o' + k * 4 + 1, none⟩ = some (.int .i64 t) ∧ w'.cell? ⟨b', o' + k * 4 + 2, none⟩ = some (.int .i64 d) ∧ w'.cell? ⟨b', o' + k * 4 + 3, none⟩ = some (.slice yp yn yc)) (exact HK _ (by repeat (with_reducible (first | exact Below.refl _ _ | refine below_drewL ?_ | refine below_on ?_ b2)))) (first | (go_at_call 19; refine (C _ (in_below lx2 bdr) (in_below ly2 bdr)).mono ?_; rintro z w2 ⟨rfl, b2⟩))
      have hbel2 := below_on (below_on hbel bdr) b2
      clear hbel b2 C bdr HK
      go_wp2_with (fail)
      go_roundw
      case rel => exact ⟨k + 1, by omega, by go_num, hbel2⟩
      case measure => simp [intOf]; omega
    · have hkn : k = n := by omega
      subst hkn
      go_wp2_with (fail)
      go_ret
      exact ⟨rfl, hbel⟩

end Go.Proofs.Ytkdbcplcpcdnbaa

namespace Go.Proofs.Ytkdbcplcpcdnbaa
open Go.RowKit

/-- A cursor in block a, over the bytes xs at p. -/
def Cur (w : World) (a : Nat) (p : Option Addr) (n c : Nat) (xs : List Int) : Prop :=
  ∃ i h : Int, w.heap[a]? = some (.cells #[.slice p n c, .int .i64 i, .int .i64 h] 94 (0, 0)) ∧ 0 ≤ i ∧ i ≤ n ∧ n ≤ 1048576 ∧ xs.length = n ∧ BytesIn w p n xs ∧ ∀ x ∈ xs, 0 ≤ x ∧ x < 256

theorem Cur.not_in {w : World} {a : Nat} {p : Option Addr} {n c : Nat} {b o : Nat} {k : Nat} {u : Int} {i h : Int} (ha : w.heap[a]? = some (.cells #[.slice p n c, .int .i64 i, .int .i64 h] 94 (0, 0))) (hc : w.cell? ⟨b, o + k, none⟩ = some (.int .u8 u)) : b ≠ a := by
  intro e
  subst e
  rw [cell_of_row w b (o + k) _ _ _ ha] at hc
  match o + k, hc with
  | 0, hc => simp at hc
  | 1, hc => simp at hc
  | 2, hc => simp at hc
  | j + 3, hc => simp at hc

theorem in_grown {w w' : World} {p : Option Addr} {n : Nat} {xs : List Int} {a : Nat} (h : BytesIn w p n xs) (hg : w.grownBy w' (some a)) (hne : ∀ b o, p = some ⟨b, o, none⟩ → 0 < n → b ≠ a) : BytesIn w' p n xs := by
  intro hn
  obtain ⟨b, o, rfl, hc⟩ := h hn
  refine ⟨b, o, rfl, fun i hi => ?_⟩
  exact hg.cell (hc i hi) (by have := hne b o rfl hn; simp; exact this)

theorem and255 (y : Int) : 0 ≤ bits .and .i64 y 255 ∧ bits .and .i64 y 255 ≤ 255 := by
  have e : (BitVec.ofInt 64 y &&& BitVec.ofInt 64 255).toNat ≤ 255 := by
    rw [BitVec.toNat_and]
    exact Nat.le_trans Nat.and_le_right (by decide)
  have : bits .and .i64 y 255 = IntKind.i64.wrap ((BitVec.ofInt 64 y &&& BitVec.ofInt 64 255).toNat : Int) := rfl
  rw [this, IntKind.wrap_i64]
  omega

theorem cells_cur {w : World} {a : Nat} {v0 v1 v2 : Value} (ha : w.heap[a]? = some (.cells #[v0, v1, v2] 94 (0, 0))) :
    w.cell? ⟨a, 0, none⟩ = some v0 ∧ w.cell? ⟨a, 1, none⟩ = some v1 ∧ w.cell? ⟨a, 2, none⟩ = some v2 ∧ w.frozen? ⟨a, 1, none⟩ = false ∧ w.frozen? ⟨a, 2, none⟩ = false := by
  refine ⟨?_, ?_, ?_, frozen_of_row _ _ _ _ _ ha, frozen_of_row _ _ _ _ _ ha⟩ <;> rw [cell_of_row _ _ _ _ _ _ ha] <;> rfl

theorem set2_cur {w : World} {a : Nat} {v0 v1 v2 : Value} (ha : w.heap[a]? = some (.cells #[v0, v1, v2] 94 (0, 0))) (u : Value) :
    (w.setCell ⟨a, 2, none⟩ u).heap[a]? = some (.cells #[v0, v1, u] 94 (0, 0)) ∧ w.grownBy (w.setCell ⟨a, 2, none⟩ u) (some a) :=
  ⟨heap_setCell_same w a 2 _ _ u ha, ⟨rfl, rfl, rfl, by simp, fun k _ hk => heap_setCell_other w ⟨a, 2, none⟩ k u (fun e => hk (by simp [e]))⟩⟩
theorem set1_cur {w : World} {a : Nat} {v0 v1 v2 : Value} (ha : w.heap[a]? = some (.cells #[v0, v1, v2] 94 (0, 0))) (u : Value) :
    (w.setCell ⟨a, 1, none⟩ u).heap[a]? = some (.cells #[v0, u, v2] 94 (0, 0)) ∧ w.grownBy (w.setCell ⟨a, 1, none⟩ u) (some a) :=
  ⟨heap_setCell_same w a 1 _ _ u ha, ⟨rfl, rfl, rfl, by simp, fun k _ hk => heap_setCell_other w ⟨a, 1, none⟩ k u (fun e => hk (by simp [e]))⟩⟩

set_option maxHeartbeats 2000000 in
theorem l1Byte_any (a : Nat) (p : Option Addr) (n c : Nat) (xs : List Int) (w : World) (hcur : Cur w a p n c xs) :
    Calls Try.prog 92 #[.pointer (some ⟨a, 0, none⟩)] w fun e w' => ∃ x : Int, e = .returned (.int .i64 x) ∧ 0 ≤ x ∧ x ≤ 255 ∧ Cur w' a p n c xs ∧ w.grownBy w' (some a) := by
  obtain ⟨i, h, ha, hi0, hin, hn, hx, hb, hr⟩ := hcur
  obtain ⟨c0, c1, c2, f1, f2⟩ := cells_cur ha
  go_enter Try.func92, Try.ntmps92
  go_wp2
  generalize wrap64 (wrap64 (h * 6364136223846793005) + 1442695040888963407) = H
  have s2 := set2_cur ha (.int .i64 H)
  generalize w.setCell ⟨a, 2, none⟩ (.int .i64 H) = W at s2 ⊢
  obtain ⟨ha1, g1⟩ := s2
  have hb1 : BytesIn W p n xs := in_grown hb g1 fun b o e hn => by
    obtain ⟨b', o', e', hc⟩ := hb hn
    rw [e] at e'
    obtain ⟨rfl, rfl⟩ : b = b' ∧ o = o' := by simpa using e'
    exact Cur.not_in ha (hc 0 hn)
  clear c0 c1 c2 f1 f2 hb ha
  obtain ⟨c0, c1, c2, f1, f2⟩ := cells_cur ha1
  go_quiet (fail)
  generalize hX : bits BinOp.and IntKind.i64 (bits BinOp.xor IntKind.i64 (H / 8589934592) (H / 35184372088832)) 255 = X
  have hX1 := and255 (bits BinOp.xor IntKind.i64 (H / 8589934592) (H / 35184372088832))
  rw [hX] at hX1
  clear hX
  obtain ⟨x0, x1⟩ := hX1
  by_cases hlt : i < (n : Int)
  · obtain ⟨k, hk⟩ : ∃ k : Nat, i = (k : Int) := ⟨i.toNat, by omega⟩
    subst hk
    obtain ⟨b, o, rfl, hc⟩ := hb1 (by omega)
    have hck := hc k (by omega)
    obtain ⟨u, hu⟩ : ∃ u, u = xs.getD k 0 := ⟨_, rfl⟩
    rw [← hu] at hck
    have hu0 : 0 ≤ u ∧ u < 256 := by
      rw [hu]; apply hr
      simp [List.getElem?_eq_getElem (show k < xs.length by omega)]
    obtain ⟨u0, u1⟩ := hu0
    have hy := and255 (X + u)
    have s1 := set1_cur ha1 (.int .i64 ((k : Int) + 1))
    have hin2 : BytesIn W (some ⟨b, o, none⟩) n xs := hb1
    have hnot := Cur.not_in ha1 hck
    clear hc hu hb1
    go_wp2
    go_quiet (fail)
    go_wp2
    go_quiet (fail)
    go_wp2
    go_ret
    refine ⟨_, rfl, hy.1, hy.2, ⟨(k : Int) + 1, H, s1.1, by omega, by omega, hn, hx, ?_, hr⟩, ?_⟩
    · exact in_grown (w' := W.setCell ⟨a, 1, none⟩ (.int .i64 ((k : Int) + 1))) hin2 s1.2 fun b' o' e _ => by
        obtain ⟨rfl, rfl⟩ : b = b' ∧ o = o' := by simpa using e
        exact hnot
    · exact grown_trans g1 ⟨s1.2.os, s1.2.tape, s1.2.output, s1.2.size, s1.2.block⟩
  · go_wp2
    go_quiet (fail)
    go_wp2
    go_ret
    exact ⟨_, rfl, x0, x1, ⟨i, H, ha1, hi0, hin, hn, hx, hb1, hr⟩, ⟨g1.os, g1.tape, g1.output, g1.size, g1.block⟩⟩

set_option maxHeartbeats 2000000 in
theorem l1Below_any (a : Nat) (p : Option Addr) (n c : Nat) (xs : List Int) (m : Int) (w : World) (hm : 1 ≤ m) (hm2 : m ≤ 256) (hcur : Cur w a p n c xs) :
    Calls Try.prog 73 #[.pointer (some ⟨a, 0, none⟩), .int .i64 m] w fun e w' => ∃ x : Int, e = .returned (.int .i64 x) ∧ 0 ≤ x ∧ x < m ∧ Cur w' a p n c xs ∧ w.grownBy w' (some a) := by
  have c1 : ¬ m ≤ 0 := by omega
  go_enter Try.func73, Try.ntmps73
  go_wp2_with (fail)
  refine (l1Byte_any a p n c xs _ hcur).mono ?_
  rintro e w1 ⟨x, rfl, hx0, hx1, hc1, g1⟩
  have hz : (m == 0) = false := by simp; omega
  go_wp2_with (fail)
  go_ret
  exact ⟨_, rfl, Int.emod_nonneg _ (by omega), Int.emod_lt_of_pos _ (by omega), hc1, g1⟩

set_option maxHeartbeats 2000000 in
set_option maxRecDepth 100000 in
theorem l1New_any (p : Option Addr) (n c : Nat) (xs : List Int) (w : World) (hn : n ≤ 1048576) (hx : xs.length = n) (hb : BytesIn w p n xs) (hr : ∀ x ∈ xs, 0 ≤ x ∧ x < 256) :
    Calls Try.prog 38 #[.slice p n c] w fun e w' => ∃ a : Nat, e = .returned (.pointer (some ⟨a, 0, none⟩)) ∧ w.heap.size ≤ a ∧ a < w'.heap.size ∧ Cur w' a p n c xs ∧ Below w.heap.size w w' := by
  go_enter Try.func38, Try.ntmps38
  go_wp2
  go_loop [3, 4] (fun q i => ∃ k : Nat, k ≤ n ∧ i = .int .i64 k ∧ q = .int .i64 (intOf q)) (fun _ i => n - (intOf i).toNat)
  case atStart => exact ⟨0, Nat.zero_le _, rfl, rfl⟩
  case round =>
    obtain ⟨k, hk, rfl, hq⟩ := hrel
    obtain ⟨h, rfl⟩ : ∃ h, u3 = .int .i64 h := ⟨_, hq⟩
    clear hq
    by_cases hlt : k < n
    · by_cases h4 : k < 4000
      · obtain ⟨b, o, rfl, hc⟩ := hb (by omega)
        have hck := hc k hlt
        obtain ⟨u, hu⟩ : ∃ u, u = xs.getD k 0 := ⟨_, rfl⟩
        rw [← hu] at hck
        clear hc hu
        go_wp2
        go_round
        case rel => exact ⟨k + 1, by omega, by go_num, by unfold intOf; rfl⟩
        case measure => simp [intOf]; omega
      · have h4' : ¬ (k : Int) < 4000 := by omega
        go_wp2
        go_ret
        exact ⟨w.heap.size, rfl, Nat.le_refl _, by simp, ⟨0, h, heap_alloc_new w _, Int.le_refl _, by omega, hn, hx, in_below hb ((Below.refl _ _).alloc (Nat.le_refl _) _), hr⟩, (Below.refl _ _).alloc (Nat.le_refl _) _⟩
    · go_wp2
      go_ret
      exact ⟨w.heap.size, rfl, Nat.le_refl _, by simp, ⟨0, h, heap_alloc_new w _, Int.le_refl _, by omega, hn, hx, in_below hb ((Below.refl _ _).alloc (Nat.le_refl _) _), hr⟩, (Below.refl _ _).alloc (Nat.le_refl _) _⟩

end Go.Proofs.Ytkdbcplcpcdnbaa

namespace Go.Proofs.Ytkdbcplcpcdnbaa
open Go.RowKit
set_option maxRecDepth 100000

theorem Cur.lt {w : World} {a : Nat} {p : Option Addr} {n c : Nat} {xs : List Int} (h : Cur w a p n c xs) : a < w.heap.size := by
  obtain ⟨i, k, ha, _⟩ := h
  exact (Array.getElem?_eq_some_iff.1 ha).1
theorem Cur.code_lt {w : World} {a : Nat} {p : Option Addr} {n c : Nat} {xs : List Int} (h : Cur w a p n c xs) : ∀ b o, p = some ⟨b, o, none⟩ → 0 < n → b < w.heap.size := by
  obtain ⟨i, k, ha, _, _, _, _, hb, _⟩ := h
  intro b o e hn
  obtain ⟨b', o', e', hc⟩ := hb hn
  rw [e] at e'
  obtain ⟨rfl, rfl⟩ : b = b' ∧ o = o' := by simpa using e'
  exact World.block_lt_of_cell? w ⟨b, o + 0, none⟩ (hc 0 hn)
theorem Cur.below {w1 w2 : World} {B a : Nat} {p : Option Addr} {n c : Nat} {xs : List Int} (h : Cur w1 a p n c xs) (hb : Below B w1 w2) (ha : a < B) (hp : ∀ b o, p = some ⟨b, o, none⟩ → 0 < n → b < B) : Cur w2 a p n c xs := by
  obtain ⟨i, k, h1, h2, h3, h4, h5, h6, h7⟩ := h
  refine ⟨i, k, by rw [hb.block a ha]; exact h1, h2, h3, h4, h5, ?_, h7⟩
  intro hn
  obtain ⟨b, o, rfl, hc⟩ := h6 hn
  refine ⟨b, o, rfl, fun j hj => ?_⟩
  rw [hb.cell (p := ⟨b, o + j, none⟩) (hp b o rfl hn)]
  exact hc j hj

/-- A row that lies behind the cursor stays as it was while the cursor is moved on. -/
theorem owns_cur {w w' : World} {a base e size : Nat} {v : Value} {n : Nat} {xs : List Value} (h : w.ownsRow base e size v n xs) (hg : w.grownBy w' (some a)) (ha : a < base) : w'.ownsRow base e size v n xs := by
  refine h.kept hg ?_
  rcases hv : v.ownBlock with _ | k
  · exact .inl rfl
  · right
    have := (h.lt k hv).1
    simp
    omega

theorem grown_below {w w2 w3 : World} {row : Option Nat} (h : w.grownBy w2 row) (hb : Below w.heap.size w2 w3) : w.grownBy w3 row :=
  ⟨hb.os.trans h.os, hb.tape.trans h.tape, hb.output.trans h.output, Nat.le_trans h.size hb.size, fun k hk hr => (hb.block k hk).trans (h.block k hk hr)⟩

set_option maxHeartbeats 2000000 in
theorem l1DrawBytes_any (a : Nat) (p : Option Addr) (n c : Nat) (xs : List Int) (m : Int) (w : World) (hm : 0 ≤ m) (hm2 : m ≤ 255) (hcur : Cur w a p n c xs) :
    Calls Try.prog 74 #[.pointer (some ⟨a, 0, none⟩), .int .i64 m] w fun e w' => ∃ g k c' ys, e = .returned (.slice (some ⟨g, 0, none⟩) k c') ∧ (k : Int) ≤ m ∧ Own 5 w' w.heap.size w'.heap.size (.slice (some ⟨g, 0, none⟩) k c') k ys ∧ (∀ y ∈ ys, 0 ≤ y ∧ y < 256) ∧ Cur w' a p n c xs ∧ w.grownBy w' (some a) := by
  obtain ⟨i0, hi, hz0, hz1, hz2⟩ := info_parts infoByte
  have ha := hcur.lt
  have hcl := hcur.code_lt
  go_enter Try.func74, Try.ntmps74
  go_wp2_with (fail)
  have hb0 : Below w.heap.size w (w.alloc (.cells #[] 5)) := (Below.refl _ _).alloc (Nat.le_refl _) _
  refine (l1Below_any a p n c xs (m + 1) _ (by omega) (by omega) (hcur.below hb0 ha hcl)).mono ?_
  rintro e w1 ⟨x, rfl, hx0, hx1, hc1, g1⟩
  obtain ⟨K, hK⟩ : ∃ K : Nat, x = (K : Int) := ⟨x.toNat, by omega⟩
  subst hK
  have o1 : w1.ownsRow w.heap.size 5 1 (.slice (some ⟨w.heap.size, 0, none⟩) 0 0) 0 (([] : List Int).map (Value.int .u8)) := owns_cur (World.ownsRow_made w #[] 0 (Nat.le_refl _) (by unfold maxLen; omega) rfl) g1 ha
  have gg : w.grownBy w1 (some a) := grown_trans (World.grownBy_alloc w _ _) g1
  clear hb0 g1
  go_wp2
  go_loopw [5, 7] (fun v i wr => ∃ (k : Nat) (ys : List Int), k ≤ K ∧ i = .int .i64 k ∧ Hid (∃ g cap, v = .slice (some ⟨g, 0, none⟩) k cap) ∧ wr.ownsRow w.heap.size 5 1 v k (ys.map (Value.int .u8)) ∧ Hid (∀ y ∈ ys, 0 ≤ y ∧ y < 256) ∧ Cur wr a p n c xs ∧ w.grownBy wr (some a))
    (fun _ i _ => K - (intOf i).toNat)
  case atStart => exact ⟨0, [], Nat.zero_le _, rfl, ⟨_, _, rfl⟩, o1, (fun y hy => by cases hy), hc1, gg⟩
  case round =>
    clear o1 gg hc1
    obtain ⟨k, ys, hk, rfl, hform, hown, hys, hc, hgr⟩ := hrel
    have hsz := hgr.size
    by_cases hlt : k < K
    · go_wp2_with (fail)
      refine (l1Below_any a p n c xs 256 _ (by omega) (by omega) hc).mono ?_
      rintro e w2 ⟨y, rfl, hy0, hy1, hc2, g2⟩
      have o2 := owns_cur hown g2 ha
      have gg := grown_trans hgr g2
      have hsz2 := gg.size
      have hys2 : Hid (∀ z ∈ ys ++ [y], 0 ≤ z ∧ z < 256) := by
        intro z hz
        rcases List.mem_append.1 hz with h | h
        · exact hys.out z h
        · simp at h; subst h; exact ⟨hy0, hy1⟩
      clear hown hc hgr hys hform
      go_wp2_with (at_builtin; refine list_pushK hi hz0 hz1 hz2 (.tmp 18) (.tmp 22) 22 Try.underlying22 _ o2 (by omega) hsz2 (by rfl) (by rfl) (by rfl) (by rfl) ?_; intro g cap w3 ho3 hb3 hkk)
      go_roundw
      case rel => exact ⟨k + 1, ys ++ [y], by omega, by go_num, ⟨_, _, rfl⟩, ho3, hys2, hc2.below hb3 ha hcl, grown_below gg hb3⟩
      case measure => simp [intOf]; omega
    · obtain ⟨g, c', hv⟩ := hform.out
      clear hform
      subst hv
      go_wp2
      go_ret
      exact ⟨g, k, c', ys, rfl, by omega, .of hown, hys.out, hc, hgr⟩

theorem below_cur {w w1 w2 : World} {a : Nat} (h : Below w.heap.size w w1) (hg : w1.grownBy w2 (some a)) (ha : w.heap.size ≤ a) : Below w.heap.size w w2 :=
  h.grown hg h.size fun k hk => by simp at hk; omega

theorem Own.mono {e : Nat} {w : World} {lo lo' hi hi' : Nat} {v : Value} {n : Nat} {xs : List Int} (h : Own e w lo hi v n xs) (hl : lo' ≤ lo) (hh : hi ≤ hi') : Own e w lo' hi' v n xs :=
  ⟨owns_mono h.1 hl, fun k hk => Nat.lt_of_lt_of_le (h.2 k hk) hh⟩

/-- A row behind the cursor, while the cursor is moved on. -/
theorem Own.cur {e : Nat} {w w' : World} {a lo hi : Nat} {v : Value} {n : Nat} {xs : List Int} (h : Own e w lo hi v n xs) (hg : w.grownBy w' (some a)) (ha : a < lo) : Own e w' lo hi v n xs := ⟨owns_cur h.1 hg ha, h.2⟩

theorem l1Once_any (a : Nat) (p : Option Addr) (n c : Nat) (xs : List Int) (m : Int) (w : World) (hm : 1 ≤ m) (hm2 : m ≤ 256) (hcur : Cur w a p n c xs) :
    Calls Try.prog 72 #[.pointer (some ⟨a, 0, none⟩), .int .i64 m] w fun e w' => ∃ b : Bool, e = .returned (.bool b) ∧ Cur w' a p n c xs ∧ w.grownBy w' (some a) := by
  go_enter Try.func72, Try.ntmps72
  go_wp2_with (fail)
  refine (l1Below_any a p n c xs m _ hm hm2 hcur).mono ?_
  rintro e w1 ⟨x, rfl, hx0, hx1, hc1, g1⟩
  go_wp2_with (fail)
  go_ret
  exact ⟨_, rfl, hc1, g1⟩

theorem l1PickInt_any (a : Nat) (p : Option Addr) (n c : Nat) (xs : List Int) (g L : Nat) (zs : List Int) (w : World) (hL : 1 ≤ L) (hL2 : L ≤ 256) (hz : zs.length = L) (hcells : ∀ i, i < L → w.cell? ⟨g, i, none⟩ = some (.int .i64 (zs.getD i 0))) (hg : g ≠ a) (hcur : Cur w a p n c xs) :
    Calls Try.prog 52 #[.pointer (some ⟨a, 0, none⟩), .slice (some ⟨g, 0, none⟩) L L] w fun e w' => ∃ z ∈ zs, e = .returned (.int .i64 z) ∧ Cur w' a p n c xs ∧ w.grownBy w' (some a) := by
  go_enter Try.func52, Try.ntmps52
  go_wp2_with (fail)
  refine (l1Below_any a p n c xs (L : Int) _ (by omega) (by omega) hcur).mono ?_
  rintro e w1 ⟨x, rfl, hx0, hx1, hc1, g1⟩
  obtain ⟨k, hk⟩ : ∃ k : Nat, x = (k : Int) := ⟨x.toNat, by omega⟩
  subst hk
  have hck : w1.cell? ⟨g, k, none⟩ = some (.int .i64 (zs.getD k 0)) := g1.cell (hcells k (by omega)) (by simpa using hg)
  obtain ⟨u, hu⟩ : ∃ u, u = zs.getD k 0 := ⟨_, rfl⟩
  rw [← hu] at hck
  have hmem : Hid (u ∈ zs) := by
    show u ∈ zs
    rw [hu]
    simp [List.getElem?_eq_getElem (show k < zs.length by omega)]
  clear hu
  go_wp2_with (fail)
  go_ret
  exact ⟨u, hmem.out, rfl, hc1, g1⟩

theorem l1Pick_any (a : Nat) (p : Option Addr) (n c : Nat) (xs : List Int) (g L : Nat) (ts : List ByteArray) (w : World) (hL : 1 ≤ L) (hL2 : L ≤ 256) (hz : ts.length = L) (hcells : ∀ i, i < L → w.cell? ⟨g, i, none⟩ = some (.string (ts.getD i ByteArray.empty))) (hg : g ≠ a) (hcur : Cur w a p n c xs) :
    Calls Try.prog 75 #[.pointer (some ⟨a, 0, none⟩), .slice (some ⟨g, 0, none⟩) L L] w fun e w' => ∃ t ∈ ts, e = .returned (.string t) ∧ Cur w' a p n c xs ∧ w.grownBy w' (some a) := by
  go_enter Try.func75, Try.ntmps75
  go_wp2_with (fail)
  refine (l1Below_any a p n c xs (L : Int) _ (by omega) (by omega) hcur).mono ?_
  rintro e w1 ⟨x, rfl, hx0, hx1, hc1, g1⟩
  obtain ⟨k, hk⟩ : ∃ k : Nat, x = (k : Int) := ⟨x.toNat, by omega⟩
  subst hk
  have hck : w1.cell? ⟨g, k, none⟩ = some (.string (ts.getD k ByteArray.empty)) := g1.cell (hcells k (by omega)) (by simpa using hg)
  obtain ⟨u, hu⟩ : ∃ u, u = ts.getD k ByteArray.empty := ⟨_, rfl⟩
  rw [← hu] at hck
  have hmem : Hid (u ∈ ts) := by
    show u ∈ ts
    rw [hu]
    simp [List.getElem?_eq_getElem (show k < ts.length by omega)]
  clear hu
  go_wp2_with (fail)
  go_ret
  exact ⟨u, hmem.out, rfl, hc1, g1⟩

/-- The cells of a list that is written out. -/
theorem lit_ints (w : World) (zs : List Int) (t : TypeId) : ∀ i, i < zs.length → (w.alloc (.cells (zs.map (Value.int .i64)).toArray t)).cell? ⟨w.heap.size, i, none⟩ = some (.int .i64 (zs.getD i 0)) := by
  intro i hi
  rw [cell_of_row _ _ _ _ _ _ (heap_alloc_new w _)]
  simp [List.getElem?_eq_getElem hi]
theorem lit_strs (w : World) (ts : List ByteArray) (t : TypeId) : ∀ i, i < ts.length → (w.alloc (.cells (ts.map Value.string).toArray t)).cell? ⟨w.heap.size, i, none⟩ = some (.string (ts.getD i ByteArray.empty)) := by
  intro i hi
  rw [cell_of_row _ _ _ _ _ _ (heap_alloc_new w _)]
  simp [List.getElem?_eq_getElem hi]

end Go.Proofs.Ytkdbcplcpcdnbaa
