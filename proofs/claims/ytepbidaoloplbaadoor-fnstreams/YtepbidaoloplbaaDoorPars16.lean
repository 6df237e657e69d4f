/-
  FnExactXor: what spec.Xor and impl.Xor answer, and the law's road; no condition beyond at most 1048576 bytes.
  FnExactXor: what spec.Xor and impl.Xor answer, and the law's road; no condition beyond at most 1048576 bytes.
  What the specification's Stream answers: the bytes of the text, one or the other, not both, with the bytes of the blocks one behind the other; or nothing. Condition: bytes all.
  What the specification's Stream answers: the bytes of the text, one or the other, not both, with the bytes of the blocks one behind the other; or nothing. Condition: bytes all.
  A run beside others, carried over from a run alone, up to the numbers of blocks. HERE: words for the steps of a goroutine's own: steps that leave the world as it is (also a walk of the kit's, 'Goes'), a step that makes a block, a step into a call that is carried over.
  The functions that a stream's two goroutines run are of the kinds of operations that are carried over.
  sendBlocks beside the receiver: its own steps, from its birth to the loop's head.
-/
import Derived.Test.YtepbidaoloplbaaDoorPars08
import Derived.Deep.AppendLies
import Derived.Deep.RegionLaw
import Derived.Test.YtepbidaoloplbaaDoorPars11
import Derived.Test.YtepbidaoloplbaaDoorPars15
import Derived.Test.YtepbidaoloplbaaDoorPars14
import Derived.Test.YtepbidaoloplbaaDoorPars13
import Derived.Test.YtepbidaoloplbaaDoorPars07
import Derived.Conc.Walk
import Derived.Test.YtepbidaoloplbaaDoorPars05
import Derived.Test.YtepbidaoloplbaaDoorChecked
import Derived.Conc.DeferLaws
import Derived.Conc.Own5
import Derived.Conc.WalkWords
import Derived.KernelRfl
namespace Go.Proofs.YtepbidaoloplbaaDoor
open Go.RowKit

/-- The bytes of both, as many as the shorter one has, one or the other, not both. -/
def xorL (xs ys : List Int) : List Int := List.zipWith (fun u v => bits BinOp.xor IntKind.u8 u v) xs ys

theorem xorL_length (xs ys : List Int) : (xorL xs ys).length = min xs.length ys.length := by simp [xorL]

theorem xorL_step {xs ys : List Int} {n m k : Nat} {u v : Int} (hx : xs.length = n) (hy : ys.length = m) (hk : k < n) (hk' : k < m) (hu : u = xs.getD k 0) (hv : v = ys.getD k 0) :
    xorL (xs.take k) (ys.take k) ++ [bits BinOp.xor IntKind.u8 u v] = xorL (xs.take (k + 1)) (ys.take (k + 1)) := by
  subst hu hv
  unfold xorL
  rw [List.take_succ_eq_append_getElem (by omega), List.take_succ_eq_append_getElem (by omega), List.zipWith_append (by simp; omega)]
  simp [List.getElem?_eq_getElem (show k < xs.length by omega), List.getElem?_eq_getElem (show k < ys.length by omega)]

theorem xorL_all {xs ys : List Int} {n m k : Nat} (hx : xs.length = n) (hy : ys.length = m) (h : k = min n m) : xorL (xs.take k) (ys.take k) = xorL xs ys := by
  subst hx hy h
  unfold xorL
  apply List.ext_getElem
  · simp
  · intro i h1 h2; simp

set_option maxHeartbeats 1000000 in
theorem specXor_any (p q : Option Addr) (n m c d : Nat) (xs ys : List Int) (w : World) (hn : n ≤ 1048576) (hm : m ≤ 1048576) (hx : xs.length = n) (hy : ys.length = m) (h : BytesIn w p n xs) (h' : BytesIn w q m ys) :
    Calls Tryd.prog 34 #[.slice p n c, .slice q m d] w fun e w' => ∃ v, e = .returned v ∧ w'.ownsRow w.heap.size 5 1 v (min n m) ((xorL xs ys).map (Value.int .u8)) ∧ Below w.heap.size w w' := by
  obtain ⟨i0, hi, hz0, hz1, hz2⟩ := info_parts infoByte
  go_enter Tryd.func34, Tryd.ntmps34
  go_wp2
  go_loopw [5, 6] (fun v i wr => ∃ k : Nat, k ≤ n ∧ k ≤ m ∧ i = .int .i64 k ∧ wr.ownsRow w.heap.size 5 1 v k ((xorL (xs.take k) (ys.take k)).map (Value.int .u8)) ∧ Below w.heap.size w wr)
    (fun _ i _ => n - (intOf i).toNat)
  case atStart => exact ⟨0, Nat.zero_le _, Nat.zero_le _, rfl, World.ownsRow_made w #[] 0 (Nat.le_refl _) (by unfold maxLen; omega) rfl, (Below.refl _ _).alloc (Nat.le_refl _) _⟩
  case round =>
    obtain ⟨k, hk, hk', rfl, hown, hbel⟩ := hrel
    have hsz := hbel.size
    by_cases hlt : k < n
    · by_cases hlt' : k < m
      · obtain ⟨b, o, rfl, hc⟩ := h (by omega)
        obtain ⟨b', o', rfl, hc'⟩ := h' (by omega)
        have hcx : wr.cell? ⟨b, o + k, none⟩ = some (.int .u8 (xs.getD k 0)) := by
          rw [hbel.cell (p := ⟨b, o + k, none⟩) (World.block_lt_of_cell? w ⟨b, o + k, none⟩ (hc k hlt))]
          exact hc k hlt
        have hcy : wr.cell? ⟨b', o' + k, none⟩ = some (.int .u8 (ys.getD k 0)) := by
          rw [hbel.cell (p := ⟨b', o' + k, none⟩) (World.block_lt_of_cell? w ⟨b', o' + k, none⟩ (hc' k hlt'))]
          exact hc' k hlt'
        obtain ⟨u, hu⟩ : ∃ u, u = xs.getD k 0 := ⟨_, rfl⟩
        obtain ⟨v, hv⟩ : ∃ v, v = ys.getD k 0 := ⟨_, rfl⟩
        rw [← hu] at hcx
        rw [← hv] at hcy
        have hnext := xorL_step hx hy hlt hlt' hu hv
        have HN : Hid (xorL (xs.take k) (ys.take k) ++ [bits BinOp.xor IntKind.u8 u v] = xorL (xs.take (k + 1)) (ys.take (k + 1))) := hnext
        clear hc hc' h h' hu hv hnext
        go_wp2
        go_region_law (refine step_push hi hz0 hz1 hz2 (.tmp 20) (.tmp 30) 22 Tryd.underlying22 _ hown (by omega) hsz (by rfl) (by rfl) (by rfl) (by rfl) ?_; intro g cap w1 ho1 hb1; rw [HN.out] at ho1)
        all_goals
          go_wp2
          go_roundw
          case rel => exact ⟨k + 1, by omega, by omega, by go_num, ho1, hbel.trans hb1⟩
          case measure => simp [intOf]; omega
      · rw [xorL_all hx hy (by omega), show k = min n m by omega] at hown
        go_wp2
        go_ret
        exact ⟨_, rfl, hown, hbel⟩
    · rw [xorL_all hx hy (by omega), show k = min n m by omega] at hown
      go_wp2
      go_ret
      exact ⟨_, rfl, hown, hbel⟩

theorem xorL_getD {xs ys : List Int} {n m k : Nat} {u v : Int} (hx : xs.length = n) (hy : ys.length = m) (hk : k < n) (hk' : k < m) (hu : u = xs.getD k 0) (hv : v = ys.getD k 0) :
    bits BinOp.xor IntKind.u8 u v = (xorL xs ys).getD k 0 := by
  subst hu hv hx hy
  simp [xorL, List.getElem?_eq_getElem hk, List.getElem?_eq_getElem hk', List.getElem?_zipWith]

set_option maxHeartbeats 1000000 in
theorem implXor_le (p q : Option Addr) (n m c d : Nat) (xs ys : List Int) (w : World) (hn : n ≤ 1048576) (hm : m ≤ 1048576) (hx : xs.length = n) (hy : ys.length = m) (h : BytesIn w p n xs) (h' : BytesIn w q m ys) (hmin : n ≤ m) :
    Calls Tryd.prog 31 #[.slice p n c, .slice q m d] w fun e w' => ∃ v, e = .returned v ∧ w'.ownsRow w.heap.size 5 1 v n ((xorL xs ys).map (Value.int .u8)) ∧ Below w.heap.size w w' := by
  obtain ⟨i0, hi, hz0, hz1, hz2⟩ := info_parts infoByte
  have hl : (xorL xs ys).length = n := by rw [xorL_length, hx, hy]; omega
  go_enter Tryd.func31, Tryd.ntmps31
  go_wp2_with (at_make; refine wpList_make_full _ rfl _ _ 22 rfl w.heap.size 5 i0 (.int .u8 0) 1 Tryd.underlying22 hi hz0 hz1 _ _ _ _ n rfl rfl rfl rfl ?b2 ?b3 ?b4 ?_)
  case b2 => rw [hz2]; omega
  case b3 => unfold maxLen; omega
  case b4 => exact Nat.le_refl _
  intro w1 hown hgrow
  rw [fill_start (xorL xs ys) n] at hown
  have hbel : Below w.heap.size w w1 := (Below.refl _ _).grown hgrow (Nat.le_refl _) (fun _ h => by cases h)
  clear hgrow
  go_wp2
  go_loopw [15] (fun i wr => ∃ k : Nat, k ≤ n ∧ i = .int .i64 k ∧ wr.ownsRow w.heap.size 5 1 (.slice (some ⟨w.heap.size, 0, none⟩) n n) n (((xorL xs ys).take k ++ List.replicate (n - k) 0).map (Value.int .u8)) ∧ Below w.heap.size w wr)
    (fun i _ => n - (intOf i).toNat)
  case atStart => exact ⟨0, Nat.zero_le _, rfl, hown, hbel⟩
  case round =>
    clear hown hbel
    obtain ⟨k, hk, rfl, hown, hbel⟩ := hrel
    by_cases hlt : k < n
    · have hlx : k < n := by omega
      have hly : k < m := by omega
      obtain ⟨b, o, rfl, hc⟩ := h (by omega)
      obtain ⟨b', o', rfl, hc'⟩ := h' (by omega)
      have hcx : wr.cell? ⟨b, o + k, none⟩ = some (.int .u8 (xs.getD k 0)) := by
        rw [hbel.cell (p := ⟨b, o + k, none⟩) (World.block_lt_of_cell? w ⟨b, o + k, none⟩ (hc k hlx))]
        exact hc k hlx
      have hcy : wr.cell? ⟨b', o' + k, none⟩ = some (.int .u8 (ys.getD k 0)) := by
        rw [hbel.cell (p := ⟨b', o' + k, none⟩) (World.block_lt_of_cell? w ⟨b', o' + k, none⟩ (hc' k hly))]
        exact hc' k hly
      obtain ⟨u, hu⟩ : ∃ u, u = xs.getD k 0 := ⟨_, rfl⟩
      obtain ⟨v, hv⟩ : ∃ v, v = ys.getD k 0 := ⟨_, rfl⟩
      rw [← hu] at hcx
      rw [← hv] at hcy
      have hold : wr.cell? ⟨w.heap.size, k, none⟩ = some (.int .u8 0) := by
        rw [hown.cellAt k (by omega)]; exact fill_old _ n k hlt hl
      have hfz := hown.frozenAt k
      have hst := hown.stored k (.int .u8 (bits BinOp.xor IntKind.u8 u v))
      rw [fill_step (xorL xs ys) n k _ (xorL_getD hx hy hlx hly hu hv) hlt hl] at hst
      have hbel' := hbel.setCell (p := ⟨w.heap.size, k, none⟩) (Nat.le_refl _) (.int .u8 (bits BinOp.xor IntKind.u8 u v))
      clear hc hc' h h' hu hv
      go_wp2
      go_region
      all_goals
        go_wp2
        go_roundw
        case rel => exact ⟨k + 1, by omega, by go_num, hst.1, hbel'.drew⟩
        case measure => simp [intOf]; omega
    · have hkn : k = n := by omega
      subst hkn
      go_wp2
      go_ret
      rw [fill_end _ _ hl] at hown
      exact ⟨_, rfl, hown, hbel⟩

set_option maxHeartbeats 1000000 in
theorem implXor_gt (p q : Option Addr) (n m c d : Nat) (xs ys : List Int) (w : World) (hn : n ≤ 1048576) (hm : m ≤ 1048576) (hx : xs.length = n) (hy : ys.length = m) (h : BytesIn w p n xs) (h' : BytesIn w q m ys) (hmin : m < n) :
    Calls Tryd.prog 31 #[.slice p n c, .slice q m d] w fun e w' => ∃ v, e = .returned v ∧ w'.ownsRow w.heap.size 5 1 v m ((xorL xs ys).map (Value.int .u8)) ∧ Below w.heap.size w w' := by
  obtain ⟨i0, hi, hz0, hz1, hz2⟩ := info_parts infoByte
  have hl : (xorL xs ys).length = m := by rw [xorL_length, hx, hy]; omega
  go_enter Tryd.func31, Tryd.ntmps31
  go_wp2_with (at_make; refine wpList_make_full _ rfl _ _ 22 rfl w.heap.size 5 i0 (.int .u8 0) 1 Tryd.underlying22 hi hz0 hz1 _ _ _ _ m rfl rfl rfl rfl ?b2 ?b3 ?b4 ?_)
  case b2 => rw [hz2]; omega
  case b3 => unfold maxLen; omega
  case b4 => exact Nat.le_refl _
  intro w1 hown hgrow
  rw [fill_start (xorL xs ys) m] at hown
  have hbel : Below w.heap.size w w1 := (Below.refl _ _).grown hgrow (Nat.le_refl _) (fun _ h => by cases h)
  clear hgrow
  go_wp2
  go_loopw [15] (fun i wr => ∃ k : Nat, k ≤ m ∧ i = .int .i64 k ∧ wr.ownsRow w.heap.size 5 1 (.slice (some ⟨w.heap.size, 0, none⟩) m m) m (((xorL xs ys).take k ++ List.replicate (m - k) 0).map (Value.int .u8)) ∧ Below w.heap.size w wr)
    (fun i _ => m - (intOf i).toNat)
  case atStart => exact ⟨0, Nat.zero_le _, rfl, hown, hbel⟩
  case round =>
    clear hown hbel
    obtain ⟨k, hk, rfl, hown, hbel⟩ := hrel
    by_cases hlt : k < m
    · have hlx : k < n := by omega
      have hly : k < m := by omega
      obtain ⟨b, o, rfl, hc⟩ := h (by omega)
      obtain ⟨b', o', rfl, hc'⟩ := h' (by omega)
      have hcx : wr.cell? ⟨b, o + k, none⟩ = some (.int .u8 (xs.getD k 0)) := by
        rw [hbel.cell (p := ⟨b, o + k, none⟩) (World.block_lt_of_cell? w ⟨b, o + k, none⟩ (hc k hlx))]
        exact hc k hlx
      have hcy : wr.cell? ⟨b', o' + k, none⟩ = some (.int .u8 (ys.getD k 0)) := by
        rw [hbel.cell (p := ⟨b', o' + k, none⟩) (World.block_lt_of_cell? w ⟨b', o' + k, none⟩ (hc' k hly))]
        exact hc' k hly
      obtain ⟨u, hu⟩ : ∃ u, u = xs.getD k 0 := ⟨_, rfl⟩
      obtain ⟨v, hv⟩ : ∃ v, v = ys.getD k 0 := ⟨_, rfl⟩
      rw [← hu] at hcx
      rw [← hv] at hcy
      have hold : wr.cell? ⟨w.heap.size, k, none⟩ = some (.int .u8 0) := by
        rw [hown.cellAt k (by omega)]; exact fill_old _ m k hlt hl
      have hfz := hown.frozenAt k
      have hst := hown.stored k (.int .u8 (bits BinOp.xor IntKind.u8 u v))
      rw [fill_step (xorL xs ys) m k _ (xorL_getD hx hy hlx hly hu hv) hlt hl] at hst
      have hbel' := hbel.setCell (p := ⟨w.heap.size, k, none⟩) (Nat.le_refl _) (.int .u8 (bits BinOp.xor IntKind.u8 u v))
      clear hc hc' h h' hu hv
      go_wp2
      go_region
      all_goals
        go_wp2
        go_roundw
        case rel => exact ⟨k + 1, by omega, by go_num, hst.1, hbel'.drew⟩
        case measure => simp [intOf]; omega
    · have hkn : k = m := by omega
      subst hkn
      go_wp2
      go_ret
      rw [fill_end _ _ hl] at hown
      exact ⟨_, rfl, hown, hbel⟩

theorem implXor_any (p q : Option Addr) (n m c d : Nat) (xs ys : List Int) (w : World) (hn : n ≤ 1048576) (hm : m ≤ 1048576) (hx : xs.length = n) (hy : ys.length = m) (h : BytesIn w p n xs) (h' : BytesIn w q m ys) :
    Calls Tryd.prog 31 #[.slice p n c, .slice q m d] w fun e w' => ∃ v, e = .returned v ∧ w'.ownsRow w.heap.size 5 1 v (min n m) ((xorL xs ys).map (Value.int .u8)) ∧ Below w.heap.size w w' := by
  by_cases hle : n ≤ m
  · rw [show min n m = n by omega]
    exact implXor_le p q n m c d xs ys w hn hm hx hy h h' hle
  · rw [show min n m = m by omega]
    exact implXor_gt p q n m c d xs ys w hn hm hx hy h h' (by omega)

theorem specXor_own (p q : Option Addr) (n m c d : Nat) (xs ys : List Int) (w : World) (hn : n ≤ 1048576) (hm : m ≤ 1048576) (hx : xs.length = n) (hy : ys.length = m) (h : BytesIn w p n xs) (h' : BytesIn w q m ys) :
    Calls Tryd.prog 34 #[.slice p n c, .slice q m d] w fun e w' => ∃ p' c', e = .returned (.slice p' (min n m) c') ∧ Own 5 w' w.heap.size w'.heap.size (.slice p' (min n m) c') (min n m) (xorL xs ys) ∧ Below w.heap.size w w' := by
  refine (specXor_any p q n m c d xs ys w hn hm hx hy h h').mono fun e w' ⟨v, h1, h2, h3⟩ => ?_
  obtain ⟨p', c', rfl⟩ := owns_form h2
  exact ⟨p', c', h1, .of h2, h3⟩

end Go.Proofs.YtepbidaoloplbaaDoor

namespace Go.Proofs.YtepbidaoloplbaaDoor.Alt
open Go.RowKit

set_option maxHeartbeats 1000000 in
theorem specXor_any (p q : Option Addr) (n m c d : Nat) (xs ys : List Int) (w : World) (hn : n ≤ 1048576) (hm : m ≤ 1048576) (hx : xs.length = n) (hy : ys.length = m) (h : BytesIn w p n xs) (h' : BytesIn w q m ys) :
    Calls Altd.prog 34 #[.slice p n c, .slice q m d] w fun e w' => ∃ v, e = .returned v ∧ w'.ownsRow w.heap.size 5 1 v (min n m) ((xorL xs ys).map (Value.int .u8)) ∧ Below w.heap.size w w' := by
  obtain ⟨i0, hi, hz0, hz1, hz2⟩ := info_parts infoByte
  go_enter Altd.func34, Altd.ntmps34
  go_wp2
  go_loopw [5, 6] (fun v i wr => ∃ k : Nat, k ≤ n ∧ k ≤ m ∧ i = .int .i64 k ∧ wr.ownsRow w.heap.size 5 1 v k ((xorL (xs.take k) (ys.take k)).map (Value.int .u8)) ∧ Below w.heap.size w wr)
    (fun _ i _ => n - (intOf i).toNat)
  case atStart => exact ⟨0, Nat.zero_le _, Nat.zero_le _, rfl, World.ownsRow_made w #[] 0 (Nat.le_refl _) (by unfold maxLen; omega) rfl, (Below.refl _ _).alloc (Nat.le_refl _) _⟩
  case round =>
    obtain ⟨k, hk, hk', rfl, hown, hbel⟩ := hrel
    have hsz := hbel.size
    by_cases hlt : k < n
    · by_cases hlt' : k < m
      · obtain ⟨b, o, rfl, hc⟩ := h (by omega)
        obtain ⟨b', o', rfl, hc'⟩ := h' (by omega)
        have hcx : wr.cell? ⟨b, o + k, none⟩ = some (.int .u8 (xs.getD k 0)) := by
          rw [hbel.cell (p := ⟨b, o + k, none⟩) (World.block_lt_of_cell? w ⟨b, o + k, none⟩ (hc k hlt))]
          exact hc k hlt
        have hcy : wr.cell? ⟨b', o' + k, none⟩ = some (.int .u8 (ys.getD k 0)) := by
          rw [hbel.cell (p := ⟨b', o' + k, none⟩) (World.block_lt_of_cell? w ⟨b', o' + k, none⟩ (hc' k hlt'))]
          exact hc' k hlt'
        obtain ⟨u, hu⟩ : ∃ u, u = xs.getD k 0 := ⟨_, rfl⟩
        obtain ⟨v, hv⟩ : ∃ v, v = ys.getD k 0 := ⟨_, rfl⟩
        rw [← hu] at hcx
        rw [← hv] at hcy
        have hnext := xorL_step hx hy hlt hlt' hu hv
        have HN : Hid (xorL (xs.take k) (ys.take k) ++ [bits BinOp.xor IntKind.u8 u v] = xorL (xs.take (k + 1)) (ys.take (k + 1))) := hnext
        clear hc hc' h h' hu hv hnext
        go_wp2
        go_region_law (refine step_push hi hz0 hz1 hz2 (.tmp 20) (.tmp 30) 22 Altd.underlying22 _ hown (by omega) hsz (by rfl) (by rfl) (by rfl) (by rfl) ?_; intro g cap w1 ho1 hb1; rw [HN.out] at ho1)
        all_goals
          go_wp2
          go_roundw
          case rel => exact ⟨k + 1, by omega, by omega, by go_num, ho1, hbel.trans hb1⟩
          case measure => simp [intOf]; omega
      · rw [xorL_all hx hy (by omega), show k = min n m by omega] at hown
        go_wp2
        go_ret
        exact ⟨_, rfl, hown, hbel⟩
    · rw [xorL_all hx hy (by omega), show k = min n m by omega] at hown
      go_wp2
      go_ret
      exact ⟨_, rfl, hown, hbel⟩

set_option maxHeartbeats 1000000 in
theorem implXor_le (p q : Option Addr) (n m c d : Nat) (xs ys : List Int) (w : World) (hn : n ≤ 1048576) (hm : m ≤ 1048576) (hx : xs.length = n) (hy : ys.length = m) (h : BytesIn w p n xs) (h' : BytesIn w q m ys) (hmin : n ≤ m) :
    Calls Altd.prog 31 #[.slice p n c, .slice q m d] w fun e w' => ∃ v, e = .returned v ∧ w'.ownsRow w.heap.size 5 1 v n ((xorL xs ys).map (Value.int .u8)) ∧ Below w.heap.size w w' := by
  obtain ⟨i0, hi, hz0, hz1, hz2⟩ := info_parts infoByte
  have hl : (xorL xs ys).length = n := by rw [xorL_length, hx, hy]; omega
  go_enter Altd.func31, Altd.ntmps31
  go_wp2_with (at_make; refine wpList_make_full _ rfl _ _ 22 rfl w.heap.size 5 i0 (.int .u8 0) 1 Altd.underlying22 hi hz0 hz1 _ _ _ _ n rfl rfl rfl rfl ?b2 ?b3 ?b4 ?_)
  case b2 => rw [hz2]; omega
  case b3 => unfold maxLen; omega
  case b4 => exact Nat.le_refl _
  intro w1 hown hgrow
  rw [fill_start (xorL xs ys) n] at hown
  have hbel : Below w.heap.size w w1 := (Below.refl _ _).grown hgrow (Nat.le_refl _) (fun _ h => by cases h)
  clear hgrow
  go_wp2
  go_loopw [15] (fun i wr => ∃ k : Nat, k ≤ n ∧ i = .int .i64 k ∧ wr.ownsRow w.heap.size 5 1 (.slice (some ⟨w.heap.size, 0, none⟩) n n) n (((xorL xs ys).take k ++ List.replicate (n - k) 0).map (Value.int .u8)) ∧ Below w.heap.size w wr)
    (fun i _ => n - (intOf i).toNat)
  case atStart => exact ⟨0, Nat.zero_le _, rfl, hown, hbel⟩
  case round =>
    clear hown hbel
    obtain ⟨k, hk, rfl, hown, hbel⟩ := hrel
    by_cases hlt : k < n
    · have hlx : k < n := by omega
      have hly : k < m := by omega
      obtain ⟨b, o, rfl, hc⟩ := h (by omega)
      obtain ⟨b', o', rfl, hc'⟩ := h' (by omega)
      have hcx : wr.cell? ⟨b, o + k, none⟩ = some (.int .u8 (xs.getD k 0)) := by
        rw [hbel.cell (p := ⟨b, o + k, none⟩) (World.block_lt_of_cell? w ⟨b, o + k, none⟩ (hc k hlx))]
        exact hc k hlx
      have hcy : wr.cell? ⟨b', o' + k, none⟩ = some (.int .u8 (ys.getD k 0)) := by
        rw [hbel.cell (p := ⟨b', o' + k, none⟩) (World.block_lt_of_cell? w ⟨b', o' + k, none⟩ (hc' k hly))]
        exact hc' k hly
      obtain ⟨u, hu⟩ : ∃ u, u = xs.getD k 0 := ⟨_, rfl⟩
      obtain ⟨v, hv⟩ : ∃ v, v = ys.getD k 0 := ⟨_, rfl⟩
      rw [← hu] at hcx
      rw [← hv] at hcy
      have hold : wr.cell? ⟨w.heap.size, k, none⟩ = some (.int .u8 0) := by
        rw [hown.cellAt k (by omega)]; exact fill_old _ n k hlt hl
      have hfz := hown.frozenAt k
      have hst := hown.stored k (.int .u8 (bits BinOp.xor IntKind.u8 u v))
      rw [fill_step (xorL xs ys) n k _ (xorL_getD hx hy hlx hly hu hv) hlt hl] at hst
      have hbel' := hbel.setCell (p := ⟨w.heap.size, k, none⟩) (Nat.le_refl _) (.int .u8 (bits BinOp.xor IntKind.u8 u v))
      clear hc hc' h h' hu hv
      go_wp2
      go_region
      all_goals
        go_wp2
        go_roundw
        case rel => exact ⟨k + 1, by omega, by go_num, hst.1, hbel'.drew⟩
        case measure => simp [intOf]; omega
    · have hkn : k = n := by omega
      subst hkn
      go_wp2
      go_ret
      rw [fill_end _ _ hl] at hown
      exact ⟨_, rfl, hown, hbel⟩

set_option maxHeartbeats 1000000 in
theorem implXor_gt (p q : Option Addr) (n m c d : Nat) (xs ys : List Int) (w : World) (hn : n ≤ 1048576) (hm : m ≤ 1048576) (hx : xs.length = n) (hy : ys.length = m) (h : BytesIn w p n xs) (h' : BytesIn w q m ys) (hmin : m < n) :
    Calls Altd.prog 31 #[.slice p n c, .slice q m d] w fun e w' => ∃ v, e = .returned v ∧ w'.ownsRow w.heap.size 5 1 v m ((xorL xs ys).map (Value.int .u8)) ∧ Below w.heap.size w w' := by
  obtain ⟨i0, hi, hz0, hz1, hz2⟩ := info_parts infoByte
  have hl : (xorL xs ys).length = m := by rw [xorL_length, hx, hy]; omega
  go_enter Altd.func31, Altd.ntmps31
  go_wp2_with (at_make; refine wpList_make_full _ rfl _ _ 22 rfl w.heap.size 5 i0 (.int .u8 0) 1 Altd.underlying22 hi hz0 hz1 _ _ _ _ m rfl rfl rfl rfl ?b2 ?b3 ?b4 ?_)
  case b2 => rw [hz2]; omega
  case b3 => unfold maxLen; omega
  case b4 => exact Nat.le_refl _
  intro w1 hown hgrow
  rw [fill_start (xorL xs ys) m] at hown
  have hbel : Below w.heap.size w w1 := (Below.refl _ _).grown hgrow (Nat.le_refl _) (fun _ h => by cases h)
  clear hgrow
  go_wp2
  go_loopw [15] (fun i wr => ∃ k : Nat, k ≤ m ∧ i = .int .i64 k ∧ wr.ownsRow w.heap.size 5 1 (.slice (some ⟨w.heap.size, 0, none⟩) m m) m (((xorL xs ys).take k ++ List.replicate (m - k) 0).map (Value.int .u8)) ∧ Below w.heap.size w wr)
    (fun i _ => m - (intOf i).toNat)
  case atStart => exact ⟨0, Nat.zero_le _, rfl, hown, hbel⟩
  case round =>
    clear hown hbel
    obtain ⟨k, hk, rfl, hown, hbel⟩ := hrel
    by_cases hlt : k < m
    · have hlx : k < n := by omega
      have hly : k < m := by omega
      obtain ⟨b, o, rfl, hc⟩ := h (by omega)
      obtain ⟨b', o', rfl, hc'⟩ := h' (by omega)
      have hcx : wr.cell? ⟨b, o + k, none⟩ = some (.int .u8 (xs.getD k 0)) := by
        rw [hbel.cell (p := ⟨b, o + k, none⟩) (World.block_lt_of_cell? w ⟨b, o + k, none⟩ (hc k hlx))]
        exact hc k hlx
      have hcy : wr.cell? ⟨b', o' + k, none⟩ = some (.int .u8 (ys.getD k 0)) := by
        rw [hbel.cell (p := ⟨b', o' + k, none⟩) (World.block_lt_of_cell? w ⟨b', o' + k, none⟩ (hc' k hly))]
        exact hc' k hly
      obtain ⟨u, hu⟩ : ∃ u, u = xs.getD k 0 := ⟨_, rfl⟩
      obtain ⟨v, hv⟩ : ∃ v, v = ys.getD k 0 := ⟨_, rfl⟩
      rw [← hu] at hcx
      rw [← hv] at hcy
      have hold : wr.cell? ⟨w.heap.size, k, none⟩ = some (.int .u8 0) := by
        rw [hown.cellAt k (by omega)]; exact fill_old _ m k hlt hl
      have hfz := hown.frozenAt k
      have hst := hown.stored k (.int .u8 (bits BinOp.xor IntKind.u8 u v))
      rw [fill_step (xorL xs ys) m k _ (xorL_getD hx hy hlx hly hu hv) hlt hl] at hst
      have hbel' := hbel.setCell (p := ⟨w.heap.size, k, none⟩) (Nat.le_refl _) (.int .u8 (bits BinOp.xor IntKind.u8 u v))
      clear hc hc' h h' hu hv
      go_wp2
      go_region
      all_goals
        go_wp2
        go_roundw
        case rel => exact ⟨k + 1, by omega, by go_num, hst.1, hbel'.drew⟩
        case measure => simp [intOf]; omega
    · have hkn : k = m := by omega
      subst hkn
      go_wp2
      go_ret
      rw [fill_end _ _ hl] at hown
      exact ⟨_, rfl, hown, hbel⟩

theorem implXor_any (p q : Option Addr) (n m c d : Nat) (xs ys : List Int) (w : World) (hn : n ≤ 1048576) (hm : m ≤ 1048576) (hx : xs.length = n) (hy : ys.length = m) (h : BytesIn w p n xs) (h' : BytesIn w q m ys) :
    Calls Altd.prog 31 #[.slice p n c, .slice q m d] w fun e w' => ∃ v, e = .returned v ∧ w'.ownsRow w.heap.size 5 1 v (min n m) ((xorL xs ys).map (Value.int .u8)) ∧ Below w.heap.size w w' := by
  by_cases hle : n ≤ m
  · rw [show min n m = n by omega]
    exact implXor_le p q n m c d xs ys w hn hm hx hy h h' hle
  · rw [show min n m = m by omega]
    exact implXor_gt p q n m c d xs ys w hn hm hx hy h h' (by omega)

theorem specXor_own (p q : Option Addr) (n m c d : Nat) (xs ys : List Int) (w : World) (hn : n ≤ 1048576) (hm : m ≤ 1048576) (hx : xs.length = n) (hy : ys.length = m) (h : BytesIn w p n xs) (h' : BytesIn w q m ys) :
    Calls Altd.prog 34 #[.slice p n c, .slice q m d] w fun e w' => ∃ p' c', e = .returned (.slice p' (min n m) c') ∧ Own 5 w' w.heap.size w'.heap.size (.slice p' (min n m) c') (min n m) (xorL xs ys) ∧ Below w.heap.size w w' := by
  refine (specXor_any p q n m c d xs ys w hn hm hx hy h h').mono fun e w' ⟨v, h1, h2, h3⟩ => ?_
  obtain ⟨p', c', rfl⟩ := owns_form h2
  exact ⟨p', c', h1, .of h2, h3⟩

end Go.Proofs.YtepbidaoloplbaaDoor.Alt

namespace Go.Proofs.YtepbidaoloplbaaDoor
open Go.RowKit
set_option maxRecDepth 100000

/-- The text behind i blocks. -/
def outS (ks : List Int) (count : Int) (ns bs : List Int) : Nat → List Int
  | 0 => []
  | i + 1 => outS ks count ns bs i ++ xorL (blkB ks (count + (i : Int)) ns) (bs.drop (64 * i))
theorem outS_length (ks : List Int) (count : Int) (ns bs : List Int) (i : Nat) : (outS ks count ns bs i).length = min (64 * i) bs.length := by
  induction i with
  | zero => simp [outS]
  | succ i ih =>
    rw [outS, List.length_append, ih, xorL_length, List.length_drop, blkB_length]
    omega
def strOk (n m k : Nat) (count : Int) : Prop := k ≤ 4000 ∧ ∀ i : Nat, 64 * i < k → blkOk n m (count + (i : Int))
open Classical in
noncomputable def strS (ks : List Int) (count : Int) (ns bs : List Int) : List Int := if strOk ks.length ns.length bs.length count then outS ks count ns bs ((bs.length + 63) / 64) else []
theorem slice_on (b j m cc l : Nat) (h : l < m) (hc : m ≤ cc) (W : World) : (Instr.slice 22 (.slice (some ⟨b, j, none⟩) m cc) (some (.int .i64 (l : Int))) none none).run Tryd.prog W = .ok (.slice (some ⟨b, j + l, none⟩) (m - l) (cc - l)) W := by
  have ht' : Tryd.prog.underlying 22 = some (.slice (Tryd.prog.elem 22)) := by simp [Program.elem, Tryd.underlying22]
  have he : Tryd.prog.elem 22 = 5 := by simp [Program.elem, Tryd.underlying22]
  obtain ⟨i0, hi, hz0, hz1, hz2⟩ := info_parts infoByte
  rw [run_slice_l W 22 _ _ _ ht' .i64 l (by omega) (by omega), he]
  simp [sizeOf, typeInfo, hi, hz1, sliced, Addr.add, show cc ≠ l by omega]

set_option maxHeartbeats 1000000 in
theorem specStr_small (p q r : Option Addr) (n m k c d f : Nat) (count : Int) (ks ns bs : List Int) (w : World) (hk : k ≤ 4000) (hf : k ≤ f) (hx : ks.length = n) (hy : ns.length = m) (hz : bs.length = k) (h : BytesIn w p n ks) (h' : BytesIn w q m ns) (h'' : BytesIn w r k bs) (hb1 : ∀ x ∈ ks, 0 ≤ x ∧ x < 256) (hb2 : ∀ x ∈ ns, 0 ≤ x ∧ x < 256) :
    Calls Tryd.prog 12 #[.slice p n c, .int .i64 count, .slice q m d, .slice r k f] w fun e w' => ∃ p' L c', e = .returned (.slice p' L c') ∧ Own 5 w' w.heap.size w'.heap.size (.slice p' L c') L (strS ks count ns bs) ∧ Below w.heap.size w w' := by
  obtain ⟨i0, hi, hz0, hz1, hz2⟩ := info_parts infoByte
  have d1 : ¬ (4000 : Int) < (k : Int) := by omega
  have hown0 : (w.alloc (.cells #[] 5)).ownsRow w.heap.size 5 1 (.slice (some ⟨w.heap.size, 0, none⟩) 0 0) 0 ((outS ks count ns bs 0).map (Value.int .u8)) := World.ownsRow_made w #[] 0 (Nat.le_refl _) (by unfold maxLen; omega) rfl
  have hb0 : Below w.heap.size w (w.alloc (.cells #[] 5)) := (Below.refl _ _).alloc (Nat.le_refl _) _
  go_enter Tryd.func12, Tryd.ntmps12
  go_wp2_with (fail)
  generalize w.alloc (.cells #[] 5) = w2 at hown0 hb0 ⊢
  go_loopw [9, 10, 1, 11] (fun v at_ cn _ wr => ∃ (i a L : Nat) (cc : Int), Hid (a = 64 * i) ∧ Hid (cc = count + (i : Int)) ∧ a < k + 64 ∧ at_ = .int .i64 a ∧ cn = .int .i64 cc ∧ wr.ownsRow w.heap.size 5 1 v L ((outS ks count ns bs i).map (Value.int .u8)) ∧ Hid (∀ i' : Nat, i' < i → blkOk n m (count + (i' : Int))) ∧ Below w.heap.size w wr)
    (fun _ at_ _ _ _ => match at_ with | .int _ z => k + 64 - z.toNat | _ => 0)
  case atStart => exact ⟨0, 0, 0, count, rfl, by rw [Hid]; simp, by omega, rfl, rfl, hown0, fun i' h => absurd h (Nat.not_lt_zero _), hb0⟩
  case round =>
    clear hown0 hb0
    obtain ⟨i, a, L, cc, ha, hcc, hak, rfl, rfl, hown, hoks, hbl⟩ := hrel
    have hszr := hbl.size
    obtain ⟨pv, cv, hv⟩ := owns_form hown
    subst hv
    by_cases hlt : a < k
    · obtain ⟨b2, o2, rfl, hcell⟩ := h'' (by omega)
      by_cases hok : blkOk n m cc
      · have CB := specBlk_any p q n m c d cc ks ns wr hx hy (in_below h hbl) (in_below h' hbl) hb1 hb2
        rw [blkN, if_pos hok, blkL, hx, hy, if_pos hok] at CB
        have hsl := slice_on b2 o2 k f a hlt hf
        have hc0 := hok.2.2.1
        have hc1 := hok.2.2.2
        have hlB := blkB_length ks cc ns
        have HX : Hid (∀ W, Below w.heap.size w W → BytesIn W (some ⟨b2, o2 + a, none⟩) (k - a) (bs.drop a)) := fun W hW _ => ⟨b2, o2 + a, rfl, fun j hj => by
          have := hcell (a + j) (by omega)
          rw [Nat.add_assoc, hW.cell (p := ⟨b2, o2 + (a + j), none⟩) (World.block_lt_of_cell? w ⟨b2, o2 + (a + j), none⟩ this), this]
          simp [List.getD]⟩
        have HO : Hid (outS ks count ns bs i ++ xorL (blkB ks cc ns) (bs.drop a) = outS ks count ns bs (i + 1)) := by rw [Hid, outS, ha.out, hcc.out]
        have hld : (bs.drop a).length = k - a := by rw [List.length_drop, hz]
        generalize blkB ks cc ns = B at CB hlB HO
        generalize bs.drop a = D at HX HO hld
        clear hcell
        go_wp2_with (fail)
        refine CB.mono ?_
        rintro e w6 ⟨p6, c6, rfl, r6, b6⟩
        clear CB
        go_wp2_with (fail)
        have bel6 : Below w.heap.size w w6 := below_on hbl b6
        refine (specXor_own p6 _ 64 (k - a) c6 (f - a) B D w6 (by omega) (by omega) hlB hld r6.bytes (HX.out w6 bel6)).mono ?_
        rintro e w7 ⟨p7, c7, rfl, r7, b7⟩
        have bel7 := below_on bel6 b7
        have hown7 := owns_below (owns_below hown b6) b7
        have hin7 := r7.bytes
        have l7 : (xorL B D).length = min 64 (k - a) := by rw [xorL_length, hlB, hld]
        have hs7 := bel7.size
        have hL : L ≤ 1048576 := by
          have h1 := owns_len hown7
          rw [outS_length, hz] at h1
          omega
        have hmin : 0 < min 64 (k - a) := by omega
        have hmax : min 64 (k - a) ≤ 64 := by omega
        have HA : Hid (a + 64 = 64 * (i + 1)) := by rw [Hid, ha.out]; omega
        have HC : Hid (cc + 1 = count + ((i + 1 : Nat) : Int)) := by rw [Hid, hcc.out]; omega
        have HK : Hid (∀ i' : Nat, i' < i + 1 → blkOk n m (count + (i' : Int))) := fun i' hi' => by
          rcases Nat.lt_or_ge i' i with h1 | h1
          · exact hoks.out i' h1
          · obtain rfl : i' = i := by omega
            rw [← hcc.out]
            exact hok
        clear hown r6 r7 b6 b7 HX hoks ha hcc hld hlB hsl bel6 hbl
        generalize min 64 (k - a) = mm at hin7 l7 hmin hmax ⊢
        go_wp2_with (at_builtin; refine list_spread hi hz0 hz1 hz2 (.tmp 31) (.tmp 36) 22 Tryd.underlying22 hown7 hin7 l7 hmin (by omega) (by omega) hs7 (by rfl) (by rfl) (by rfl) (by rfl) ?_; intro g8 cap8 w8 ho8 hg8 hb8; rw [HO.out] at ho8)
        go_roundw
        case rel => exact ⟨i + 1, a + 64, L + mm, cc + 1, HA, HC, by omega, by go_num, by go_num, ho8, HK, bel7.trans hb8⟩
        case measure => simp only; omega
      · have CB := specBlk_any p q n m c d cc ks ns wr hx hy (in_below h hbl) (in_below h' hbl) hb1 hb2
        rw [blkN, if_neg hok, blkL, hx, hy, if_neg hok] at CB
        have hno : strS ks count ns bs = [] := if_neg fun hS => hok (by
          have := hS.2 i (by rw [hz, ← ha.out]; exact hlt)
          rw [hx, hy, ← hcc.out] at this
          exact this)
        clear hcell
        go_wp2_with (fail)
        refine CB.mono ?_
        rintro e w6 ⟨p6, c6, rfl, r6, b6⟩
        have bel6 : Below w.heap.size w w6 := below_on hbl b6
        have hs6 := bel6.size
        have ho6 : (w6.alloc (.cells #[] 5)).ownsRow w.heap.size 5 1 (.slice (some ⟨w6.heap.size, 0, none⟩) 0 0) 0 (([] : List Int).map (Value.int .u8)) := World.ownsRow_made w6 #[] 0 hs6 (by unfold maxLen; omega) rfl
        clear CB
        go_wp2_with (fail)
        go_ret
        rw [hno]
        exact ⟨_, _, _, rfl, .of ho6, bel6.alloc hs6 _⟩
    · have hyes : strS ks count ns bs = outS ks count ns bs i := by
        have e1 : (bs.length + 63) / 64 = i := by
          have := ha.out
          rw [hz]
          omega
        have hS : strOk ks.length ns.length bs.length count := ⟨by rw [hz]; exact hk, fun i' hi' => by rw [hx, hy]; exact hoks.out i' (by have := ha.out; rw [hz] at hi'; omega)⟩
        rw [strS, if_pos hS, e1]
      have hnl : ¬ (a : Int) < (k : Int) := by omega
      go_wp2_with (fail)
      go_ret
      exact ⟨_, _, _, rfl, .of hown, hbl⟩

theorem specStr_any (p q r : Option Addr) (n m k c d f : Nat) (count : Int) (ks ns bs : List Int) (w : World) (hf : k ≤ f) (hx : ks.length = n) (hy : ns.length = m) (hz : bs.length = k) (h : BytesIn w p n ks) (h' : BytesIn w q m ns) (h'' : BytesIn w r k bs) (hb1 : ∀ x ∈ ks, 0 ≤ x ∧ x < 256) (hb2 : ∀ x ∈ ns, 0 ≤ x ∧ x < 256) :
    Calls Tryd.prog 12 #[.slice p n c, .int .i64 count, .slice q m d, .slice r k f] w fun e w' => ∃ p' L c', e = .returned (.slice p' L c') ∧ Own 5 w' w.heap.size w'.heap.size (.slice p' L c') L (strS ks count ns bs) ∧ Below w.heap.size w w' := by
  by_cases hk : k ≤ 4000
  · exact specStr_small p q r n m k c d f count ks ns bs w hk hf hx hy hz h h' h'' hb1 hb2
  · have hno : Hid (strS ks count ns bs = []) := if_neg fun hS => hk (by have := hS.1; omega)
    have d1 : (4000 : Int) < (k : Int) := by omega
    have hown0 : (w.alloc (.cells #[] 5)).ownsRow w.heap.size 5 1 (.slice (some ⟨w.heap.size, 0, none⟩) 0 0) 0 (([] : List Int).map (Value.int .u8)) := World.ownsRow_made w #[] 0 (Nat.le_refl _) (by unfold maxLen; omega) rfl
    have hb0 : Below w.heap.size w (w.alloc (.cells #[] 5)) := (Below.refl _ _).alloc (Nat.le_refl _) _
    go_enter Tryd.func12, Tryd.ntmps12
    go_wp2_with (fail)
    go_ret
    rw [hno.out]
    exact ⟨_, _, _, rfl, .of hown0, hb0⟩

end Go.Proofs.YtepbidaoloplbaaDoor

namespace Go.Proofs.YtepbidaoloplbaaDoor.Alt
open Go.RowKit
set_option maxRecDepth 100000

theorem slice_on (b j m cc l : Nat) (h : l < m) (hc : m ≤ cc) (W : World) : (Instr.slice 22 (.slice (some ⟨b, j, none⟩) m cc) (some (.int .i64 (l : Int))) none none).run Altd.prog W = .ok (.slice (some ⟨b, j + l, none⟩) (m - l) (cc - l)) W := by
  have ht' : Altd.prog.underlying 22 = some (.slice (Altd.prog.elem 22)) := by simp [-Altd.underlyingG, Program.elem, Altd.underlying22]
  have he : Altd.prog.elem 22 = 5 := by simp [-Altd.underlyingG, Program.elem, Altd.underlying22]
  obtain ⟨i0, hi, hz0, hz1, hz2⟩ := info_parts infoByte
  rw [run_slice_l W 22 _ _ _ ht' .i64 l (by omega) (by omega), he]
  simp [-Altd.tables, sizeOf, typeInfo, hi, hz1, sliced, Addr.add, show cc ≠ l by omega]

set_option maxHeartbeats 1000000 in
theorem specStr_small (p q r : Option Addr) (n m k c d f : Nat) (count : Int) (ks ns bs : List Int) (w : World) (hk : k ≤ 4000) (hf : k ≤ f) (hx : ks.length = n) (hy : ns.length = m) (hz : bs.length = k) (h : BytesIn w p n ks) (h' : BytesIn w q m ns) (h'' : BytesIn w r k bs) (hb1 : ∀ x ∈ ks, 0 ≤ x ∧ x < 256) (hb2 : ∀ x ∈ ns, 0 ≤ x ∧ x < 256) :
    Calls Altd.prog 12 #[.slice p n c, .int .i64 count, .slice q m d, .slice r k f] w fun e w' => ∃ p' L c', e = .returned (.slice p' L c') ∧ Own 5 w' w.heap.size w'.heap.size (.slice p' L c') L (strS ks count ns bs) ∧ Below w.heap.size w w' := by
  obtain ⟨i0, hi, hz0, hz1, hz2⟩ := info_parts infoByte
  have d1 : ¬ (4000 : Int) < (k : Int) := by omega
  have hown0 : (w.alloc (.cells #[] 5)).ownsRow w.heap.size 5 1 (.slice (some ⟨w.heap.size, 0, none⟩) 0 0) 0 ((outS ks count ns bs 0).map (Value.int .u8)) := World.ownsRow_made w #[] 0 (Nat.le_refl _) (by unfold maxLen; omega) rfl
  have hb0 : Below w.heap.size w (w.alloc (.cells #[] 5)) := (Below.refl _ _).alloc (Nat.le_refl _) _
  go_enter Altd.func12, Altd.ntmps12
  go_wp2_with (fail)
  generalize w.alloc (.cells #[] 5) = w2 at hown0 hb0 ⊢
  go_loopw [9, 10, 1, 11] (fun v at_ cn _ wr => ∃ (i a L : Nat) (cc : Int), Hid (a = 64 * i) ∧ Hid (cc = count + (i : Int)) ∧ a < k + 64 ∧ at_ = .int .i64 a ∧ cn = .int .i64 cc ∧ wr.ownsRow w.heap.size 5 1 v L ((outS ks count ns bs i).map (Value.int .u8)) ∧ Hid (∀ i' : Nat, i' < i → blkOk n m (count + (i' : Int))) ∧ Below w.heap.size w wr)
    (fun _ at_ _ _ _ => match at_ with | .int _ z => k + 64 - z.toNat | _ => 0)
  case atStart => exact ⟨0, 0, 0, count, rfl, by rw [Hid]; simp, by omega, rfl, rfl, hown0, fun i' h => absurd h (Nat.not_lt_zero _), hb0⟩
  case round =>
    clear hown0 hb0
    obtain ⟨i, a, L, cc, ha, hcc, hak, rfl, rfl, hown, hoks, hbl⟩ := hrel
    have hszr := hbl.size
    obtain ⟨pv, cv, hv⟩ := owns_form hown
    subst hv
    by_cases hlt : a < k
    · obtain ⟨b2, o2, rfl, hcell⟩ := h'' (by omega)
      by_cases hok : blkOk n m cc
      · have CB := specBlk_any p q n m c d cc ks ns wr hx hy (in_below h hbl) (in_below h' hbl) hb1 hb2
        rw [blkN, if_pos hok, blkL, hx, hy, if_pos hok] at CB
        have hsl := slice_on b2 o2 k f a hlt hf
        have hc0 := hok.2.2.1
        have hc1 := hok.2.2.2
        have hlB := blkB_length ks cc ns
        have HX : Hid (∀ W, Below w.heap.size w W → BytesIn W (some ⟨b2, o2 + a, none⟩) (k - a) (bs.drop a)) := fun W hW _ => ⟨b2, o2 + a, rfl, fun j hj => by
          have := hcell (a + j) (by omega)
          rw [Nat.add_assoc, hW.cell (p := ⟨b2, o2 + (a + j), none⟩) (World.block_lt_of_cell? w ⟨b2, o2 + (a + j), none⟩ this), this]
          simp [List.getD]⟩
        have HO : Hid (outS ks count ns bs i ++ xorL (blkB ks cc ns) (bs.drop a) = outS ks count ns bs (i + 1)) := by rw [Hid, outS, ha.out, hcc.out]
        have hld : (bs.drop a).length = k - a := by rw [List.length_drop, hz]
        generalize blkB ks cc ns = B at CB hlB HO
        generalize bs.drop a = D at HX HO hld
        clear hcell
        go_wp2_with (fail)
        refine CB.mono ?_
        rintro e w6 ⟨p6, c6, rfl, r6, b6⟩
        clear CB
        go_wp2_with (fail)
        have bel6 : Below w.heap.size w w6 := below_on hbl b6
        refine (specXor_own p6 _ 64 (k - a) c6 (f - a) B D w6 (by omega) (by omega) hlB hld r6.bytes (HX.out w6 bel6)).mono ?_
        rintro e w7 ⟨p7, c7, rfl, r7, b7⟩
        have bel7 := below_on bel6 b7
        have hown7 := owns_below (owns_below hown b6) b7
        have hin7 := r7.bytes
        have l7 : (xorL B D).length = min 64 (k - a) := by rw [xorL_length, hlB, hld]
        have hs7 := bel7.size
        have hL : L ≤ 1048576 := by
          have h1 := owns_len hown7
          rw [outS_length, hz] at h1
          omega
        have hmin : 0 < min 64 (k - a) := by omega
        have hmax : min 64 (k - a) ≤ 64 := by omega
        have HA : Hid (a + 64 = 64 * (i + 1)) := by rw [Hid, ha.out]; omega
        have HC : Hid (cc + 1 = count + ((i + 1 : Nat) : Int)) := by rw [Hid, hcc.out]; omega
        have HK : Hid (∀ i' : Nat, i' < i + 1 → blkOk n m (count + (i' : Int))) := fun i' hi' => by
          rcases Nat.lt_or_ge i' i with h1 | h1
          · exact hoks.out i' h1
          · obtain rfl : i' = i := by omega
            rw [← hcc.out]
            exact hok
        clear hown r6 r7 b6 b7 HX hoks ha hcc hld hlB hsl bel6 hbl
        generalize min 64 (k - a) = mm at hin7 l7 hmin hmax ⊢
        go_wp2_with (at_builtin; refine list_spread hi hz0 hz1 hz2 (.tmp 31) (.tmp 36) 22 Altd.underlying22 hown7 hin7 l7 hmin (by omega) (by omega) hs7 (by rfl) (by rfl) (by rfl) (by rfl) ?_; intro g8 cap8 w8 ho8 hg8 hb8; rw [HO.out] at ho8)
        go_roundw
        case rel => exact ⟨i + 1, a + 64, L + mm, cc + 1, HA, HC, by omega, by go_num, by go_num, ho8, HK, bel7.trans hb8⟩
        case measure => simp only; omega
      · have CB := specBlk_any p q n m c d cc ks ns wr hx hy (in_below h hbl) (in_below h' hbl) hb1 hb2
        rw [blkN, if_neg hok, blkL, hx, hy, if_neg hok] at CB
        have hno : strS ks count ns bs = [] := if_neg fun hS => hok (by
          have := hS.2 i (by rw [hz, ← ha.out]; exact hlt)
          rw [hx, hy, ← hcc.out] at this
          exact this)
        clear hcell
        go_wp2_with (fail)
        refine CB.mono ?_
        rintro e w6 ⟨p6, c6, rfl, r6, b6⟩
        have bel6 : Below w.heap.size w w6 := below_on hbl b6
        have hs6 := bel6.size
        have ho6 : (w6.alloc (.cells #[] 5)).ownsRow w.heap.size 5 1 (.slice (some ⟨w6.heap.size, 0, none⟩) 0 0) 0 (([] : List Int).map (Value.int .u8)) := World.ownsRow_made w6 #[] 0 hs6 (by unfold maxLen; omega) rfl
        clear CB
        go_wp2_with (fail)
        go_ret
        rw [hno]
        exact ⟨_, _, _, rfl, .of ho6, bel6.alloc hs6 _⟩
    · have hyes : strS ks count ns bs = outS ks count ns bs i := by
        have e1 : (bs.length + 63) / 64 = i := by
          have := ha.out
          rw [hz]
          omega
        have hS : strOk ks.length ns.length bs.length count := ⟨by rw [hz]; exact hk, fun i' hi' => by rw [hx, hy]; exact hoks.out i' (by have := ha.out; rw [hz] at hi'; omega)⟩
        rw [strS, if_pos hS, e1]
      have hnl : ¬ (a : Int) < (k : Int) := by omega
      go_wp2_with (fail)
      go_ret
      exact ⟨_, _, _, rfl, .of hown, hbl⟩

theorem specStr_any (p q r : Option Addr) (n m k c d f : Nat) (count : Int) (ks ns bs : List Int) (w : World) (hf : k ≤ f) (hx : ks.length = n) (hy : ns.length = m) (hz : bs.length = k) (h : BytesIn w p n ks) (h' : BytesIn w q m ns) (h'' : BytesIn w r k bs) (hb1 : ∀ x ∈ ks, 0 ≤ x ∧ x < 256) (hb2 : ∀ x ∈ ns, 0 ≤ x ∧ x < 256) :
    Calls Altd.prog 12 #[.slice p n c, .int .i64 count, .slice q m d, .slice r k f] w fun e w' => ∃ p' L c', e = .returned (.slice p' L c') ∧ Own 5 w' w.heap.size w'.heap.size (.slice p' L c') L (strS ks count ns bs) ∧ Below w.heap.size w w' := by
  by_cases hk : k ≤ 4000
  · exact specStr_small p q r n m k c d f count ks ns bs w hk hf hx hy hz h h' h'' hb1 hb2
  · have hno : Hid (strS ks count ns bs = []) := if_neg fun hS => hk (by have := hS.1; omega)
    have d1 : (4000 : Int) < (k : Int) := by omega
    have hown0 : (w.alloc (.cells #[] 5)).ownsRow w.heap.size 5 1 (.slice (some ⟨w.heap.size, 0, none⟩) 0 0) 0 (([] : List Int).map (Value.int .u8)) := World.ownsRow_made w #[] 0 (Nat.le_refl _) (by unfold maxLen; omega) rfl
    have hb0 : Below w.heap.size w (w.alloc (.cells #[] 5)) := (Below.refl _ _).alloc (Nat.le_refl _) _
    go_enter Altd.func12, Altd.ntmps12
    go_wp2_with (fail)
    go_ret
    rw [hno.out]
    exact ⟨_, _, _, rfl, .of hown0, hb0⟩

end Go.Proofs.YtepbidaoloplbaaDoor.Alt

namespace Go.Proofs.YtepbidaoloplbaaDoor
open Go Go.Conc

section
variable {P : Program} {main : Bool} {Sh : Nat → Prop} {Stop : (Nat → Prop) → Goroutine → World → Prop} {M : Nat → Prop} {g g' : Goroutine} {w w' : World}
theorem grown_self (h : w'.heap.size = w.heap.size) : grown M w w' = M := funext fun b => propext ⟨fun x => x.elim id fun y => by omega, .inl⟩
theorem Guar.quiet {es : Array Event} (h : ∀ e ∈ es, EvM Sh M e) : Guar Sh M w w es :=
  ⟨Nat.le_refl _, fun _ _ _ => rfl, fun _ _ _ => rfl, rfl, rfl, rfl, fun e he => by rw [grown_self rfl]; exact h e he⟩
/-- A step that leaves the world as it is. -/
theorem Co.quiet (hr : g.status = .running) (hs : ∀ w1, Keeps M w w1 → ∃ es, stepG P main g w1 = .go g' w1 es ∧ ∀ e ∈ es, EvM Sh M e) (h : Co P main Sh Stop M g' w) : Co P main Sh Stop M g w := by
  refine .step hr (fun w1 hk => ?_) fun w1 hk g'' w2 es he => ?_
  · obtain ⟨es, h1, h2⟩ := hs w1 hk
    exact ⟨g', w1, es, h1, .quiet h2⟩
  · obtain ⟨es', h1, _⟩ := hs w1 hk
    rw [he] at h1
    cases h1
    rw [grown_self rfl]
    exact h.keeps hk
/-- A move of control. -/
theorem Co.ctl (hr : g.status = .running) (hs : ∀ w1, stepG P main g w1 = .go g' w1 #[]) (h : Co P main Sh Stop M g' w) : Co P main Sh Stop M g w :=
  .quiet hr (fun w1 _ => ⟨#[], hs w1, by simp⟩) h
/-- What a step of such a walk may do. -/
def DQ (Sh M : Nat → Prop) (w w' : World) (es : Array Event) : Prop := w' = w ∧ ∀ e ∈ es, EvM Sh M e
theorem DQ.none (Sh M : Nat → Prop) (w : World) : DQ Sh M w w #[] := ⟨rfl, by simp⟩
/-- A step that makes one block. -/
theorem Co.alloc {o : Obj} {g' : Nat → Goroutine} (hr : g.status = .running) (hs : ∀ w1, Keeps M w w1 → ∃ es, stepG P main g w1 = .go (g' w1.heap.size) { w1 with heap := w1.heap.push o } es ∧ ∀ e ∈ es, EvM Sh (fun b => M b ∨ b = w1.heap.size) e) (hM : ∀ b, M b → b < w.heap.size)
    (h : ∀ w1, Keeps M w w1 → Co P main Sh Stop (fun b => M b ∨ b = w1.heap.size) (g' w1.heap.size) { w1 with heap := w1.heap.push o }) : Co P main Sh Stop M g w := by
  have hg : ∀ w1 : World, grown M w1 { w1 with heap := w1.heap.push o } = fun b => M b ∨ b = w1.heap.size := fun w1 => funext fun b => propext ⟨fun x => x.imp id fun y => by have h1 := y.1; have h2 := y.2; simp at h2; omega, fun x => x.imp id fun y => by subst y; simp⟩
  refine .step hr (fun w1 hk => ?_) fun w1 hk g'' w2 es he => ?_
  · obtain ⟨es, h1, h2⟩ := hs w1 hk
    have hp : ∀ b, b < w1.heap.size → (w1.heap.push o)[b]? = w1.heap[b]? := fun b hb => by rw [Array.getElem?_push_lt hb, Array.getElem?_eq_getElem hb]
    exact ⟨_, _, es, h1, by simp, fun b hb _ => hp b hb, fun b _ hm => hp b (Nat.lt_of_lt_of_le (hM b hm) hk.size), rfl, rfl, rfl, fun e hee => by rw [hg]; exact h2 e hee⟩
  · obtain ⟨es', h1, _⟩ := hs w1 hk
    rw [he] at h1
    cases h1
    rw [hg]
    exact h w1 hk
end

section
variable {P : Program} {Gl : Globs} {Al : Nat → Bool} {Sh : Nat → Prop} {main : Bool}
/-- A call that is carried over, with blocks beside that it does not touch: behind it, what comes next. -/
theorem co_call_in (T : TameP P Gl Al) {Tr : Nat → Prop} {Post : Value → World → Prop} {ρ : Ren} {f : FuncId} {args args' : Array Value} {wg w : World} {M R : Nat → Prop} {c : Frame} {cs : List Frame} {Stop : (Nat → Prop) → Goroutine → World → Prop} (hT0 : ∀ b b', ρ b b' → Tr b' → Sh b) (hTr : ∀ b', Tr b' → b' < w.heap.size) (hf : Al f = true)
    (hC : ∀ τ, Calls P f args (World.ret wg τ) fun e w1 => ∃ v, e = .returned v ∧ Post v w1) (hs : Sit 0 P Gl Al Sh ρ wg w) (hargs : RelR ρ args args') (hM : ∀ b', M b' ↔ (∃ b, ρ b b') ∨ R b') (hR : ∀ b, R b → b < w.heap.size ∧ ¬ ∃ c, ρ c b)
    (next : ∀ (ρ1 : Ren) (v v' : Value) (w1g w1 : World) (M' : Nat → Prop), RelV ρ1 v v' → Post v w1g → RelW 0 Sh ρ1 w1g w1 → ρ.le ρ1 → (∀ b b', ρ1 b b' → ρ b b' ∨ (wg.heap.size ≤ b ∧ w.heap.size ≤ b')) → (∀ b', M' b' ↔ (∃ b, ρ1 b b') ∨ R b') → Keeps R w w1 → Co P main Tr Stop M' (G (c.finish v') cs) w1) :
    Co P main Tr Stop M (G (Frame.enter P f args' .normal) (c :: cs)) w := by
  have h1 := co_call (main := main) (c := c) (cs := cs) T hT0 hTr hf hC hs hargs (M := fun b' => ∃ b, ρ b b') fun _ => .rfl
  refine (h1.frame (R := R) (w0 := w) hM (fun b hb => (hR b hb).1) (fun b hb => (hR b hb).2) (.refl _ _)).bind fun M' g1 w1 ⟨M1, ⟨ρ1, v, v', w1g, e1, e2, e3, e4, e5, e6, e7⟩, h3, h4⟩ => ?_
  subst e1
  exact next ρ1 v v' w1g w1 M' e2 e3 e4 e6 e7 (fun b' => by rw [h3 b', e5 b']) h4
end

end Go.Proofs.YtepbidaoloplbaaDoor

namespace Go.Proofs.YtepbidaoloplbaaDoor
open Go Go.Conc

def glS : Globs := ⟨fun g => g == 0, fun _ _ => false⟩
def alS (f : Nat) : Bool := [32, 43, 54, 60, 51, 57, 58, 61, 59, 31].contains f
theorem tame_one {P : Program} {Gl : Globs} {Al : Nat → Bool} {f : Nat} {fn : Func} (h : P.funcs[f]? = some fn) (hc : (match fn.body with | some b => okCode P Gl Al b | none => false) = true) (hn : (fn.name == "runtime.NumGoroutine") = false) : ∃ fn body, P.funcs[f]? = some fn ∧ (fn.name == "runtime.NumGoroutine") = false ∧ fn.body = some body ∧ okCode P Gl Al body = true := by
  cases hb : fn.body with
  | none => rw [hb] at hc; cases hc
  | some b => rw [hb] at hc; exact ⟨fn, b, h, hn, hb, hc⟩
theorem tameS : TameP Tryd.prog glS alS := by
  refine ⟨fun f hf => ?_, fun _ _ => rfl⟩
  simp only [alS, List.contains_cons, List.contains_nil, Bool.or_false, Bool.or_eq_true, beq_iff_eq] at hf
  rcases hf with rfl | rfl | rfl | rfl | rfl | rfl | rfl | rfl | rfl | rfl
  · exact tame_one Tryd.func32 (by kernel_rfl) (by kernel_rfl)
  · exact tame_one Tryd.func43 (by kernel_rfl) (by kernel_rfl)
  · exact tame_one Tryd.func54 (by kernel_rfl) (by kernel_rfl)
  · exact tame_one Tryd.func60 (by kernel_rfl) (by kernel_rfl)
  · exact tame_one Tryd.func51 (by kernel_rfl) (by kernel_rfl)
  · exact tame_one Tryd.func57 (by kernel_rfl) (by kernel_rfl)
  · exact tame_one Tryd.func58 (by kernel_rfl) (by kernel_rfl)
  · exact tame_one Tryd.func61 (by kernel_rfl) (by kernel_rfl)
  · exact tame_one Tryd.func59 (by kernel_rfl) (by kernel_rfl)
  · exact tame_one Tryd.func31 (by kernel_rfl) (by kernel_rfl)

end Go.Proofs.YtepbidaoloplbaaDoor

namespace Go.Proofs.YtepbidaoloplbaaDoor
open Go Go.Conc

def bK : Frame := { (default : Frame) with fn := 30, kind := .deferred }
noncomputable def bodyK : Code := Tryd.f30.body.getD .skip
noncomputable def LK : Code := match bodyK with | .seq _ (.seq _ (.seq _ (.block _ (.loop c)))) => c | _ => .skip
noncomputable def botK : Frame := { (default : Frame) with fn := Tryd.prog.funcs.size, defers := [], mode := .panicking [goexitEntry] }
/-- The deferred close. -/
def closeK (ch : Nat) : Deferred := { target := .builtin .close #[68] 0 #[false], args := #[.chan (some ch)] }

/-- The call that the go statement holds. -/
def callK (X : Array Value) (ch : Nat) (c m : Int) : Deferred := { target := .fn (.func 30) #[], args := #[.agg X, .chan (some ch), .int .i64 c, .int .i64 m] }
theorem born_K (X : Array Value) (ch : Nat) (c m : Int) (w : World) : stepG Tryd.prog false (born Tryd.prog (callK X ch c m)) w =
    .go (G (bK.at ⟨#[.agg X, .chan (some ch), .int .i64 c, .int .i64 m, undef, undef, undef, undef, undef, undef, undef, undef, undef, undef, undef, undef, undef, undef, undef, undef, undef], []⟩ [.code bodyK]) [botK]) w #[] := by
  simp [born, callK, stepG, unwind, callDeferred, invoke, callFunc, Tryd.func30, Tryd.f30, seen, GStep.after, G, Frame.enter, Frame.at, bK, botK, bodyK]

section
variable {Sh : Nat → Prop} {Stop : (Nat → Prop) → Goroutine → World → Prop} {M : Nat → Prop} {w : World}
theorem Co.ctlG {P : Program} {main : Bool} {fr : Frame} {cs : List Frame} {g' : Goroutine} (hs : ∀ w1, stepG P main (G fr cs) w1 = .go g' w1 #[]) (h : Co P main Sh Stop M g' w) : Co P main Sh Stop M (G fr cs) w := .ctl rfl hs h
/-- An operation that looks at slots alone. -/
theorem Co.value {P : Program} {main : Bool} {b : Frame} {a : Act} {k : List Item} {cs : List Frame} {ops : Array Oper} {i : Nat} {rest : List Nat} {o : Oper} {v : Value} (ho : ops[i]? = some o) (hw : Region.wanted o (yielded ops a.tmps) = true) (hk : b.kind ≠ .early)
    (hr : ∀ w, (execOp a.eval o).run P w = .ok (.value v) w) (he : ∀ w, (execOp a.eval o).events P w #[] = #[]) (h : Co P main Sh Stop M (G (b.at (a.put o.dst v) (.inRegion ops rest :: k)) cs) w) : Co P main Sh Stop M (G (b.at a (.inRegion ops (i :: rest) :: k)) cs) w :=
  .ctl rfl (fun w1 => by rw [stepG_value ho hw hk (hr w1)]; unfold listed; rw [he w1, seen_none]) h
/-- A variable's block is made. -/
theorem Co.box {P : Program} {main : Bool} {b : Frame} {a : Act} {k : List Item} {cs : List Frame} {ops : Array Oper} {i : Nat} {rest : List Nat} {o : Oper} {e : TypeId} {x : Operand} {X : Array Value} (ho : ops[i]? = some o) (hw : Region.wanted o (yielded ops a.tmps) = true) (hk : b.kind ≠ .early) (hop : o.op = .box e x) (hx : a.eval x = .agg X) (hM : ∀ b, M b → b < w.heap.size)
    (next : ∀ w1, Keeps M w w1 → Co P main Sh Stop (fun b => M b ∨ b = w1.heap.size) (G (b.at (a.put o.dst (.pointer (some ⟨w1.heap.size, 0, none⟩))) (.inRegion ops rest :: k)) cs) { w1 with heap := w1.heap.push (.cells X e) }) : Co P main Sh Stop M (G (b.at a (.inRegion ops (i :: rest) :: k)) cs) w := by
  have hr : ∀ w1, (execOp a.eval o).run P w1 = .ok (.value (.pointer (some ⟨w1.heap.size, 0, none⟩))) { w1 with heap := w1.heap.push (.cells X e) } := fun w1 => by
    unfold execOp
    rw [hop]
    simp [Instr.box, newVar, newRow, hx, Value.cells]
  have he : ∀ w1, (execOp a.eval o).events P w1 #[] = #[] := fun w1 => by
    unfold execOp
    rw [hop]
    simp [Instr.box, newVar, newRow]
  exact Co.alloc (g' := fun n => G (b.at (a.put o.dst (.pointer (some ⟨n, 0, none⟩))) (.inRegion ops rest :: k)) cs) rfl (fun w1 _ => ⟨#[], by rw [stepG_value ho hw hk (hr w1)]; unfold listed; rw [he w1, seen_none], by simp⟩) hM next
/-- A call is put off. -/
theorem Co.defer {P : Program} {main : Bool} {b : Frame} {a : Act} {k : List Item} {cs : List Frame} {ops : Array Oper} {i : Nat} {rest : List Nat} {o : Oper} {d : Deferred} (ho : ops[i]? = some o) (hw : Region.wanted o (yielded ops a.tmps) = true) (hk : b.kind ≠ .early)
    (hr : ∀ w, (execOp a.eval o).run P w = .ok (.defer d) w) (he : ∀ w, (execOp a.eval o).events P w #[] = #[]) (h : Co P main Sh Stop M (G (b.at (Act.put ⟨a.tmps, d :: a.defers⟩ o.dst undef) (.inRegion ops rest :: k)) cs) w) : Co P main Sh Stop M (G (b.at a (.inRegion ops (i :: rest) :: k)) cs) w := by
  refine .ctl rfl (fun w1 => ?_) h
  have hfin : (b.at ⟨a.tmps, d :: a.defers⟩ (.inRegion ops (i :: rest) :: k)).finish undef = b.at (Act.put ⟨a.tmps, d :: a.defers⟩ o.dst undef) (.inRegion ops rest :: k) := by rw [Frame.finish_at, ho]; rfl
  have hk' : (b.kind == CallKind.early) = false := by simpa using hk
  rw [stepG_oper ho hw, ← hfin]
  simp [stepG.apply, hr, he, G, Frame.at, hk', GStep.after, seen_none]
/-- The loop's head. -/
noncomputable def headK (X : Array Value) (ch : Nat) (c m : Int) (β : Nat) (i : Int) (u5 u6 u7 u8 u9 u12 u13 u14 u15 u16 u17 u18 u19 u20 : Value) : Goroutine :=
  G (bK.at ⟨#[.agg X, .chan (some ch), .int .i64 c, .int .i64 m, .pointer (some ⟨β, 0, none⟩), u5, u6, u7, u8, u9, .int .i64 m, .int .i64 i, u12, u13, u14, u15, u16, u17, u18, u19, u20], [closeK ch]⟩ [.code LK, .inLoop LK, .inBlock 0]) [botK]
set_option maxRecDepth 100000 in
theorem entry_K (X : Array Value) (ch : Nat) (c m : Int) (hM : ∀ b, M b → b < w.heap.size)
    (next : ∀ w1, Keeps M w w1 → ∀ u5 u6 u7 u8 u9 u12 u13 u14 u15 u16 u17 u18 u19 u20, Co Tryd.prog false Sh Stop (fun b => M b ∨ b = w1.heap.size) (headK X ch c m w1.heap.size 0 u5 u6 u7 u8 u9 u12 u13 u14 u15 u16 u17 u18 u19 u20) { w1 with heap := w1.heap.push (.cells X 48) }) :
    Co Tryd.prog false Sh Stop M (born Tryd.prog (callK X ch c m)) w := by
  refine Co.ctl rfl (fun w1 => born_K X ch c m w1) ?_
  simp only [headK, LK, bodyK, Tryd.f30, Option.getD_some] at next ⊢
  repeat (first | with_reducible refine Co.ctlG (fun _ => stepG_seq) ?_ | with_reducible refine Co.ctlG (fun _ => stepG_skip) ?_ | with_reducible refine Co.ctlG (fun _ => stepG_block) ?_ | with_reducible refine Co.ctlG (fun _ => stepG_loop) ?_ | with_reducible refine Co.ctlG (fun _ => stepG_inLoop) ?_ | with_reducible refine Co.ctlG (fun _ => stepG_inBlock) ?_ | with_reducible refine Co.ctlG (fun _ => stepG_region_end) ?_ | (with_reducible refine Co.ctlG (fun _ => stepG_region) ?_; (try simp only [List.size_toArray]); (try simp only [List.length_cons]); (try simp only [List.length_nil]); (try simp only [Nat.zero_add]); (try simp only [Nat.reduceAdd]); (try simp only [List.range]); (try simp only [List.range.loop])))
  refine Co.box rfl rfl (by decide) rfl rfl hM fun w1 hk => ?_
  walk_nrm
  repeat (first | (first | with_reducible refine Co.ctlG (fun _ => stepG_seq) ?_ | with_reducible refine Co.ctlG (fun _ => stepG_skip) ?_ | with_reducible refine Co.ctlG (fun _ => stepG_block) ?_ | with_reducible refine Co.ctlG (fun _ => stepG_loop) ?_ | with_reducible refine Co.ctlG (fun _ => stepG_inLoop) ?_ | with_reducible refine Co.ctlG (fun _ => stepG_inBlock) ?_ | with_reducible refine Co.ctlG (fun _ => stepG_region_end) ?_ | (with_reducible refine Co.ctlG (fun _ => stepG_region) ?_; (try simp only [List.size_toArray]); (try simp only [List.length_cons]); (try simp only [List.length_nil]); (try simp only [Nat.zero_add]); (try simp only [Nat.reduceAdd]); (try simp only [List.range]); (try simp only [List.range.loop]))) | (refine Co.value rfl rfl (by decide) (fun _ => by simp [execOp, Act.eval]; rfl) (fun _ => by simp [execOp, Act.eval]) ?_; walk_nrm))
  refine Co.defer (d := closeK ch) rfl rfl (by decide) (fun _ => by simp [execOp, resolve, Act.eval, closeK]) (fun _ => by simp [execOp, resolve, Act.eval]) ?_
  walk_nrm
  iterate 3 (first | with_reducible refine Co.ctlG (fun _ => stepG_seq) ?_ | with_reducible refine Co.ctlG (fun _ => stepG_skip) ?_ | with_reducible refine Co.ctlG (fun _ => stepG_block) ?_ | with_reducible refine Co.ctlG (fun _ => stepG_loop) ?_ | with_reducible refine Co.ctlG (fun _ => stepG_inLoop) ?_ | with_reducible refine Co.ctlG (fun _ => stepG_inBlock) ?_ | with_reducible refine Co.ctlG (fun _ => stepG_region_end) ?_ | (with_reducible refine Co.ctlG (fun _ => stepG_region) ?_; (try simp only [List.size_toArray]); (try simp only [List.length_cons]); (try simp only [List.length_nil]); (try simp only [Nat.zero_add]); (try simp only [Nat.reduceAdd]); (try simp only [List.range]); (try simp only [List.range.loop])))
  iterate 2 (refine Co.value rfl rfl (by decide) (fun _ => by simp [execOp, Act.eval]; rfl) (fun _ => by simp [execOp, Act.eval]) ?_; walk_nrm)
  iterate 3 (first | with_reducible refine Co.ctlG (fun _ => stepG_seq) ?_ | with_reducible refine Co.ctlG (fun _ => stepG_skip) ?_ | with_reducible refine Co.ctlG (fun _ => stepG_block) ?_ | with_reducible refine Co.ctlG (fun _ => stepG_loop) ?_ | with_reducible refine Co.ctlG (fun _ => stepG_inLoop) ?_ | with_reducible refine Co.ctlG (fun _ => stepG_inBlock) ?_ | with_reducible refine Co.ctlG (fun _ => stepG_region_end) ?_ | (with_reducible refine Co.ctlG (fun _ => stepG_region) ?_; (try simp only [List.size_toArray]); (try simp only [List.length_cons]); (try simp only [List.length_nil]); (try simp only [Nat.zero_add]); (try simp only [Nat.reduceAdd]); (try simp only [List.range]); (try simp only [List.range.loop])))
  exact next w1 hk ..
end

end Go.Proofs.YtepbidaoloplbaaDoor
