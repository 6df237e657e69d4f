/-
  FnExactXor: what spec.Xor and impl.Xor answer, and the law's road; no condition beyond at most 1048576 bytes.
-/
import Derived.Test.YtdjdanpicbaieaaDoorInfo
import Derived.Deep.AppendLies
import Derived.Deep.RegionLaw
namespace Go.Proofs.YtdjdanpicbaieaaDoor
open Go.RowKit
set_option maxRecDepth 100000

/-- The bytes of both, as many as the shorter one has, one or the other, not both. -/
def xorL (xs ys : List Int) : List Int := List.zipWith (fun u v => bits BinOp.xor IntKind.u8 u v) xs ys

theorem xorL_length (xs ys : List Int) : (xorL xs ys).length = min xs.length ys.length := by simp [xorL]

theorem xorL_step {xs ys : List Int} {n m k : Nat} {u v : Int} (hx : xs.length = n) (hy : ys.length = m) (hk : k < n) (hk' : k < m) (hu : u = xs.getD k 0) (hv : v = ys.getD k 0) :
    xorL (xs.take k) (ys.take k) ++ [bits BinOp.xor IntKind.u8 u v] = xorL (xs.take (k + 1)) (ys.take (k + 1)) := by
  subst hu hv
  unfold xorL
  rw [List.take_succ_eq_append_getElem (by omega), List.take_succ_eq_append_getElem (by omega), List.zipWith_append (by simp; omega)]
  simp [List.getElem?_eq_getElem (show k < xs.length by omega), List.getElem?_eq_getElem (show k < ys.length by omega)]

theorem xorL_all {xs ys : List Int} {n m k : Nat} (hx : xs.length = n) (hy : ys.length = m) (h : k = min n m) : xorL (xs.take k) (ys.take k) = xorL xs ys := by
  subst hx hy h
  unfold xorL
  apply List.ext_getElem
  · simp
  · intro i h1 h2; simp

theorem xorL_getD {xs ys : List Int} {n m k : Nat} {u v : Int} (hx : xs.length = n) (hy : ys.length = m) (hk : k < n) (hk' : k < m) (hu : u = xs.getD k 0) (hv : v = ys.getD k 0) :
    bits BinOp.xor IntKind.u8 u v = (xorL xs ys).getD k 0 := by
  subst hu hv hx hy
  simp [xorL, List.getElem?_eq_getElem hk, List.getElem?_eq_getElem hk', List.getElem?_zipWith]

set_option maxHeartbeats 1000000 in
theorem implXor_le (p q : Option Addr) (n m c d : Nat) (xs ys : List Int) (w : World) (hn : n ≤ 1048576) (hm : m ≤ 1048576) (hx : xs.length = n) (hy : ys.length = m) (h : BytesIn w p n xs) (h' : BytesIn w q m ys) (hmin : n ≤ m) :
    Calls Tryd.prog 103 #[.slice p n c, .slice q m d] w fun e w' => ∃ v, e = .returned v ∧ w'.ownsRow w.heap.size 5 1 v n ((xorL xs ys).map (Value.int .u8)) ∧ Below w.heap.size w w' := by
  obtain ⟨i0, hi, hz0, hz1, hz2⟩ := info_parts infoByte
  have hl : (xorL xs ys).length = n := by rw [xorL_length, hx, hy]; omega
  go_enter Tryd.func103, Tryd.ntmps103
  go_wp2_with (at_make; refine wpList_make_full _ rfl _ _ 22 rfl w.heap.size 5 i0 (.int .u8 0) 1 Tryd.underlying22 hi hz0 hz1 _ _ _ _ n rfl rfl rfl rfl ?b2 ?b3 ?b4 ?_)
  case b2 => rw [hz2]; omega
  case b3 => unfold maxLen; omega
  case b4 => exact Nat.le_refl _
  intro w1 hown hgrow
  rw [fill_start (xorL xs ys) n] at hown
  have hbel : Below w.heap.size w w1 := (Below.refl _ _).grown hgrow (Nat.le_refl _) (fun _ h => by cases h)
  clear hgrow
  go_wp2
  go_loopw [15] (fun i wr => ∃ k : Nat, k ≤ n ∧ i = .int .i64 k ∧ wr.ownsRow w.heap.size 5 1 (.slice (some ⟨w.heap.size, 0, none⟩) n n) n (((xorL xs ys).take k ++ List.replicate (n - k) 0).map (Value.int .u8)) ∧ Below w.heap.size w wr)
    (fun i _ => n - (intOf i).toNat)
  case atStart => exact ⟨0, Nat.zero_le _, rfl, hown, hbel⟩
  case round =>
    clear hown hbel
    obtain ⟨k, hk, rfl, hown, hbel⟩ := hrel
    by_cases hlt : k < n
    · have hlx : k < n := by omega
      have hly : k < m := by omega
      obtain ⟨b, o, rfl, hc⟩ := h (by omega)
      obtain ⟨b', o', rfl, hc'⟩ := h' (by omega)
      have hcx : wr.cell? ⟨b, o + k, none⟩ = some (.int .u8 (xs.getD k 0)) := by
        rw [hbel.cell (p := ⟨b, o + k, none⟩) (World.block_lt_of_cell? w ⟨b, o + k, none⟩ (hc k hlx))]
        exact hc k hlx
      have hcy : wr.cell? ⟨b', o' + k, none⟩ = some (.int .u8 (ys.getD k 0)) := by
        rw [hbel.cell (p := ⟨b', o' + k, none⟩) (World.block_lt_of_cell? w ⟨b', o' + k, none⟩ (hc' k hly))]
        exact hc' k hly
      obtain ⟨u, hu⟩ : ∃ u, u = xs.getD k 0 := ⟨_, rfl⟩
      obtain ⟨v, hv⟩ : ∃ v, v = ys.getD k 0 := ⟨_, rfl⟩
      rw [← hu] at hcx
      rw [← hv] at hcy
      have hold : wr.cell? ⟨w.heap.size, k, none⟩ = some (.int .u8 0) := by
        rw [hown.cellAt k (by omega)]; exact fill_old _ n k hlt hl
      have hfz := hown.frozenAt k
      have hst := hown.stored k (.int .u8 (bits BinOp.xor IntKind.u8 u v))
      rw [fill_step (xorL xs ys) n k _ (xorL_getD hx hy hlx hly hu hv) hlt hl] at hst
      have hbel' := hbel.setCell (p := ⟨w.heap.size, k, none⟩) (Nat.le_refl _) (.int .u8 (bits BinOp.xor IntKind.u8 u v))
      clear hc hc' h h' hu hv
      go_wp2
      go_region
      all_goals
        go_wp2
        go_roundw
        case rel => exact ⟨k + 1, by omega, by go_num, hst.1, hbel'.drew⟩
        case measure => simp [intOf]; omega
    · have hkn : k = n := by omega
      subst hkn
      go_wp2
      go_ret
      rw [fill_end _ _ hl] at hown
      exact ⟨_, rfl, hown, hbel⟩

set_option maxHeartbeats 1000000 in
theorem implXor_gt (p q : Option Addr) (n m c d : Nat) (xs ys : List Int) (w : World) (hn : n ≤ 1048576) (hm : m ≤ 1048576) (hx : xs.length = n) (hy : ys.length = m) (h : BytesIn w p n xs) (h' : BytesIn w q m ys) (hmin : m < n) :
    Calls Tryd.prog 103 #[.slice p n c, .slice q m d] w fun e w' => ∃ v, e = .returned v ∧ w'.ownsRow w.heap.size 5 1 v m ((xorL xs ys).map (Value.int .u8)) ∧ Below w.heap.size w w' := by
  obtain ⟨i0, hi, hz0, hz1, hz2⟩ := info_parts infoByte
  have hl : (xorL xs ys).length = m := by rw [xorL_length, hx, hy]; omega
  go_enter Tryd.func103, Tryd.ntmps103
  go_wp2_with (at_make; refine wpList_make_full _ rfl _ _ 22 rfl w.heap.size 5 i0 (.int .u8 0) 1 Tryd.underlying22 hi hz0 hz1 _ _ _ _ m rfl rfl rfl rfl ?b2 ?b3 ?b4 ?_)
  case b2 => rw [hz2]; omega
  case b3 => unfold maxLen; omega
  case b4 => exact Nat.le_refl _
  intro w1 hown hgrow
  rw [fill_start (xorL xs ys) m] at hown
  have hbel : Below w.heap.size w w1 := (Below.refl _ _).grown hgrow (Nat.le_refl _) (fun _ h => by cases h)
  clear hgrow
  go_wp2
  go_loopw [15] (fun i wr => ∃ k : Nat, k ≤ m ∧ i = .int .i64 k ∧ wr.ownsRow w.heap.size 5 1 (.slice (some ⟨w.heap.size, 0, none⟩) m m) m (((xorL xs ys).take k ++ List.replicate (m - k) 0).map (Value.int .u8)) ∧ Below w.heap.size w wr)
    (fun i _ => m - (intOf i).toNat)
  case atStart => exact ⟨0, Nat.zero_le _, rfl, hown, hbel⟩
  case round =>
    clear hown hbel
    obtain ⟨k, hk, rfl, hown, hbel⟩ := hrel
    by_cases hlt : k < m
    · have hlx : k < n := by omega
      have hly : k < m := by omega
      obtain ⟨b, o, rfl, hc⟩ := h (by omega)
      obtain ⟨b', o', rfl, hc'⟩ := h' (by omega)
      have hcx : wr.cell? ⟨b, o + k, none⟩ = some (.int .u8 (xs.getD k 0)) := by
        rw [hbel.cell (p := ⟨b, o + k, none⟩) (World.block_lt_of_cell? w ⟨b, o + k, none⟩ (hc k hlx))]
        exact hc k hlx
      have hcy : wr.cell? ⟨b', o' + k, none⟩ = some (.int .u8 (ys.getD k 0)) := by
        rw [hbel.cell (p := ⟨b', o' + k, none⟩) (World.block_lt_of_cell? w ⟨b', o' + k, none⟩ (hc' k hly))]
        exact hc' k hly
      obtain ⟨u, hu⟩ : ∃ u, u = xs.getD k 0 := ⟨_, rfl⟩
      obtain ⟨v, hv⟩ : ∃ v, v = ys.getD k 0 := ⟨_, rfl⟩
      rw [← hu] at hcx
      rw [← hv] at hcy
      have hold : wr.cell? ⟨w.heap.size, k, none⟩ = some (.int .u8 0) := by
        rw [hown.cellAt k (by omega)]; exact fill_old _ m k hlt hl
      have hfz := hown.frozenAt k
      have hst := hown.stored k (.int .u8 (bits BinOp.xor IntKind.u8 u v))
      rw [fill_step (xorL xs ys) m k _ (xorL_getD hx hy hlx hly hu hv) hlt hl] at hst
      have hbel' := hbel.setCell (p := ⟨w.heap.size, k, none⟩) (Nat.le_refl _) (.int .u8 (bits BinOp.xor IntKind.u8 u v))
      clear hc hc' h h' hu hv
      go_wp2
      go_region
      all_goals
        go_wp2
        go_roundw
        case rel => exact ⟨k + 1, by omega, by go_num, hst.1, hbel'.drew⟩
        case measure => simp [intOf]; omega
    · have hkn : k = m := by omega
      subst hkn
      go_wp2
      go_ret
      rw [fill_end _ _ hl] at hown
      exact ⟨_, rfl, hown, hbel⟩

theorem implXor_any (p q : Option Addr) (n m c d : Nat) (xs ys : List Int) (w : World) (hn : n ≤ 1048576) (hm : m ≤ 1048576) (hx : xs.length = n) (hy : ys.length = m) (h : BytesIn w p n xs) (h' : BytesIn w q m ys) :
    Calls Tryd.prog 103 #[.slice p n c, .slice q m d] w fun e w' => ∃ v, e = .returned v ∧ w'.ownsRow w.heap.size 5 1 v (min n m) ((xorL xs ys).map (Value.int .u8)) ∧ Below w.heap.size w w' := by
  by_cases hle : n ≤ m
  · rw [show min n m = n by omega]
    exact implXor_le p q n m c d xs ys w hn hm hx hy h h' hle
  · rw [show min n m = m by omega]
    exact implXor_gt p q n m c d xs ys w hn hm hx hy h h' (by omega)

theorem implXor_own (p q : Option Addr) (n m c d : Nat) (xs ys : List Int) (w : World) (hn : n ≤ 1048576) (hm : m ≤ 1048576) (hx : xs.length = n) (hy : ys.length = m) (h : BytesIn w p n xs) (h' : BytesIn w q m ys) :
    Calls Tryd.prog 103 #[.slice p n c, .slice q m d] w fun e w' => ∃ p' c', e = .returned (.slice p' (min n m) c') ∧ Own 5 w' w.heap.size w'.heap.size (.slice p' (min n m) c') (min n m) (xorL xs ys) ∧ Below w.heap.size w w' := by
  refine (implXor_any p q n m c d xs ys w hn hm hx hy h h').mono fun e w' ⟨v, h1, h2, h3⟩ => ?_
  obtain ⟨p', c', rfl⟩ := owns_form h2
  exact ⟨p', c', h1, .of h2, h3⟩

end Go.Proofs.YtdjdanpicbaieaaDoor
