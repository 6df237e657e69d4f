/-
  What slices.Grow of nil and slices.Concat of slices of bytes do: a row of the call's own, empty with room; the bytes of all, one behind the other. Conditions: at least one byte, and at most 2^30.
  What the specification's and the program's HashPad answer, whatever bytes they are given: the bytes, 128, noughts, and eight bytes that tell how many bits there are; nothing of more than 4000. No condition but a length that is an int's.
  What the specification's and the program's HashStart answer: the eight numbers, in memory of their own; no condition.
  What the specification's and the program's Hash answer, whatever bytes they are given: the fold of the blocks of the pad, as 32 bytes; nothing of more than 4000. Conditions: they are bytes, a length is an int's; for the program: the table of the rounds' numbers is as its text says.
  What bytes.Repeat answers of one byte and 64: 64 times that byte, in memory of its own. Condition: the byte lies there.
  FnExactXor: what spec.Xor and impl.Xor answer, and the law's road; no condition beyond at most 1048576 bytes.
-/
import Derived.Test.YtdjdanpicbaieaaDoorPart03
import Derived.Test.YtdjdanpicbaieaaDoorPart01
import Derived.Lib.AppendZeros
import Derived.Test.YtdjdanpicbaieaaDoorPart05
import Derived.Deep.RegionHeld3
import Derived.Lib.MakeNoZero
import Derived.Lib.SlBuf
import Derived.BigRegion
import Derived.Deep.AppendLies
import Derived.Deep.RegionLaw
namespace Go.Proofs.YtdjdanpicbaieaaDoor
open Go.RowKit
set_option maxRecDepth 100000

theorem append_empty {P : Program} (w : World) (t ty e : TypeId) (i : TypeInfo) (ht : P.underlying t = some (.slice e)) (hi : P.info? e = some i) (b : Option Addr) (n cap : Nat) (p : Option Addr) (c : Nat) (h : n ≤ cap) :
    (Builtin.append_ #[t, t] ty #[.slice b n cap, .slice p 0 c]).run P w = .ok (.slice b n cap) w := by
  cases p <;> cases b <;> simp [Builtin.append_, run_underlying ht, sizeOf, typeInfo, hi, Builtin.lenOf, Builtin.firstCells, loadCells, loadCellsFrom, storeCells, h]

theorem owns_cap {w : World} {base e : Nat} {p : Option Addr} {n c : Nat} {xs : List Value} (h : w.ownsRow base e 1 (.slice p n c) n xs) : n ≤ c := by
  rcases h.2 with ⟨hv, h0⟩ | ⟨g, cap, cur, hv, _, _, hnc, _⟩
  · omega
  · simp only [Value.slice.injEq] at hv
    obtain ⟨_, _, rfl⟩ := hv
    exact hnc

section
variable {P : Program} {e : TypeId} {i : TypeInfo} {base n m c : Nat} {wr : World} {q p : Option Addr} {cq : Nat} {xs ys : List Int}
/-- 'append(out, b...)' of bytes that lie somewhere, none of them too. -/
theorem list_spreadA {ops : Array Oper} {rest : List Oper} {o : Oper} {a : Act} {Q : Exit → Act → World → Prop} (hi : P.info? e = some i) (hz : i.zero = some (.int .u8 0)) (hsize : i.size = 1) (hby : i.bytes = 1)
    (s y : Operand) (t : TypeId) (ht : P.underlying t = some (.slice e)) (hown : wr.ownsRow base e 1 (.slice q n cq) n (xs.map (Value.int .u8))) (hin : BytesIn wr p m ys) (hl : ys.length = m) (hm' : m ≤ 1099511627776)
    (hn : n ≤ 1099511627776) (hbase : base ≤ wr.heap.size)
    (hgd : o.guard = none) (ho : o.op = .call { callee := .builtin .append, args := #[s, y], argTypes := #[t, t] }) (hs : a.eval s = .slice q n cq) (hy : a.eval y = .slice p m c)
    (h : ∀ p' cap w', w'.ownsRow base e 1 (.slice p' (n + m) cap) (n + m) ((xs ++ ys).map (Value.int .u8)) → Below base wr w' → wpList P ops Q rest (a.put o.dst (.slice p' (n + m) cap)) w') :
    wpList P ops Q (o :: rest) a wr := by
  rcases Nat.eq_zero_or_pos m with h0 | h0
  · subst h0
    obtain rfl : ys = [] := List.eq_nil_of_length_eq_zero hl
    simp only [List.append_nil, Nat.add_zero] at h
    exact Lib.wpList_append_run wr hgd s y t t ho _ _ hs hy _ _ (append_empty wr t o.type e i ht hi q n cq p c (owns_cap hown)) (h _ _ _ hown (Below.refl _ _))
  · refine list_spread hi hz hsize hby s y t ht hown hin hl h0 hm' hn hbase hgd ho hs hy ?_
    intro g cap w' h1 _ h3
    exact h _ _ _ h1 h3
end

set_option maxHeartbeats 2000000 in
theorem growNil_any (n : Nat) (w : World) (h0 : 0 < n) (hn : n ≤ 1073741824) :
    Calls Tryd.prog 67 #[.slice none 0 0, .int .i64 n] w fun e w' => ∃ p c, e = .returned (.slice p 0 c) ∧ w'.ownsRow w.heap.size 5 1 (.slice p 0 c) 0 (([] : List Int).map (Value.int .u8)) ∧ Below w.heap.size w w' := by
  obtain ⟨i0, hi, hz0, hz1, hz2⟩ := info_parts infoByte
  have h1 : ¬ ((n : Int) < 0) := by omega
  have h4 : (n : Int) > 0 := by omega
  have hrz := fun ty => Lib.run_append_nil_zeros (P := Tryd.prog) w 22 3 ty 5 i0 (.int .u8 0) .i64 .i64 Tryd.underlying22 Tryd.underlying3 hi hz0 n h0 (by omega) (by omega) (by rw [hz2]; omega)
  have hge := grownCap_ge w n 0 5
  have hcm := grownCap_le_maxLen w n 0 5 (by unfold maxLen; omega)
  generalize grownCap w n 0 5 = G at hrz hge hcm
  have hown : (w.drew.alloc (.cells (Builtin.zeroCells (Value.cells (.int .u8 0)) n ++ Builtin.zeroCells (Value.cells (.int .u8 0)) (G - n)) 5)).ownsRow w.heap.size 5 1 (.slice (some ⟨w.heap.size, 0, none⟩) 0 G) 0 (([] : List Int).map (Value.int .u8)) :=
    World.ownsRow_made w.drew _ G (by simp) hcm (by simp [size_zeroCells, Value.cells]; omega)
  have hbel : Below w.heap.size w (w.drew.alloc (.cells (Builtin.zeroCells (Value.cells (.int .u8 0)) n ++ Builtin.zeroCells (Value.cells (.int .u8 0)) (G - n)) 5)) := (Below.refl _ _).drew.alloc (by simp) _
  generalize w.drew.alloc (.cells (Builtin.zeroCells (Value.cells (.int .u8 0)) n ++ Builtin.zeroCells (Value.cells (.int .u8 0)) (G - n)) 5) = w1 at hrz hown hbel
  unfold maxLen at hcm
  go_enter Tryd.func67, Tryd.ntmps67
  go_wp2_with (at_builtin; refine Lib.wpList_append_run _ rfl _ _ _ _ rfl _ _ rfl rfl _ _ (hrz _) ?_)
  all_goals (go_ret; exact ⟨_, _, rfl, hown, hbel⟩)

def sumN (nf : Nat → Nat) : Nat → Nat
  | 0 => 0
  | k + 1 => sumN nf k + nf k
def catL (xf : Nat → List Int) : Nat → List Int
  | 0 => []
  | k + 1 => catL xf k ++ xf k
theorem sumN_le (nf : Nat → Nat) {k m : Nat} (h : k ≤ m) : sumN nf k ≤ sumN nf m := by
  induction m with
  | zero => rw [show k = 0 by omega]; exact Nat.le_refl _
  | succ m ih =>
    by_cases e : k = m + 1
    · rw [e]; exact Nat.le_refl _
    · have := ih (by omega)
      simp only [sumN]
      omega

set_option maxHeartbeats 4000000 in
theorem concat_any (gr m : Nat) (Pf : Nat → Option Addr) (nf cf : Nat → Nat) (xf : Nat → List Int) (w : World) (hm : m ≤ 1000) (hcell : ∀ k, k < m → w.cell? ⟨gr, k, none⟩ = some (.slice (Pf k) (nf k) (cf k)))
    (hlen : ∀ k, k < m → (xf k).length = nf k) (hin : ∀ k, k < m → BytesIn w (Pf k) (nf k) (xf k)) (h0 : 0 < sumN nf m) (hs : sumN nf m ≤ 1073741824) :
    Calls Tryd.prog 47 #[.slice (some ⟨gr, 0, none⟩) m m] w fun e w' => ∃ p c, e = .returned (.slice p (sumN nf m) c) ∧ Own 5 w' w.heap.size w'.heap.size (.slice p (sumN nf m) c) (sumN nf m) (catL xf m) ∧ Below w.heap.size w w' := by
  obtain ⟨i0, hi, hz0, hz1, hz2⟩ := info_parts infoByte
  have HC : Hid (∀ k, k < m → w.cell? ⟨gr, k, none⟩ = some (.slice (Pf k) (nf k) (cf k))) := hcell
  have HL : Hid (∀ k, k < m → (xf k).length = nf k) := hlen
  have HI : Hid (∀ k, k < m → BytesIn w (Pf k) (nf k) (xf k)) := hin
  clear hcell hlen hin
  go_enter Tryd.func47, Tryd.ntmps47
  go_wp2
  go_loop [3, 11] (fun v i => ∃ k s : Nat, k ≤ m ∧ i = .int .i64 k ∧ v = .int .i64 s ∧ Hid (s = sumN nf k)) (fun _ i => m - (intOf i).toNat)
  case atStart => exact ⟨0, 0, by omega, rfl, rfl, rfl⟩
  case round =>
    obtain ⟨k, s, hk, rfl, rfl, hsk⟩ := hrel
    by_cases hlt : k < m
    · have hc := HC.out k hlt
      have hle : s + nf k ≤ 1073741824 := by rw [hsk.out]; exact Nat.le_trans (sumN_le nf (k := k + 1) hlt) hs
      have HN : Hid (s + nf k = sumN nf (k + 1)) := by rw [hsk.out]; rfl
      generalize nf k = n1 at hc hle HN
      generalize Pf k = p1 at hc
      generalize cf k = c1 at hc
      have hneg : ¬ ((s : Int) + (n1 : Int) < 0) := by omega
      go_wp2
      go_round
      case rel => exact ⟨k + 1, s + n1, by omega, by go_num, by go_num, HN⟩
      case measure => simp [intOf]; omega
    · obtain rfl : k = m := by omega
      obtain rfl : s = sumN nf k := hsk.out
      clear hsk
      have HS : Hid (sumN nf k = sumN nf k) := rfl
      generalize hN : sumN nf k = N at h0 hs HS ⊢
      clear HS
      have HNn : Hid (sumN nf k = N) := hN
      clear hN
      have hneg : ¬ ((N : Int) < 0) := by omega
      go_wp2_with (fail)
      refine (growNil_any N _ h0 hs).mono ?_
      rintro e w1 ⟨p1, c1, rfl, ho1, b1⟩
      go_wp2_with (fail)
      go_loopw [6, 27] (fun v i wr => ∃ j s : Nat, j ≤ k ∧ i = .int .i64 j ∧ Hid (s = sumN nf j) ∧ wr.ownsRow w.heap.size 5 1 v s ((catL xf j).map (Value.int .u8)) ∧ Below w.heap.size w wr)
        (fun _ i _ => k - (intOf i).toNat)
      case atStart => exact ⟨0, 0, by omega, rfl, rfl, ho1, b1⟩
      case round =>
        clear ho1 b1
        obtain ⟨j, s, hj, rfl, hsj, hown, hbel⟩ := hrel
        have hsz := hbel.size
        by_cases hlt2 : j < k
        · have hc := HC.out j hlt2
          have hgr : gr < w.heap.size := World.block_lt_of_cell? w ⟨gr, j, none⟩ hc
          have hc2 := (hbel.cell (p := ⟨gr, j, none⟩) hgr).trans hc
          have hle : s + nf j ≤ N := by rw [hsj.out, ← HNn.out]; exact sumN_le nf (k := j + 1) hlt2
          have HN : Hid (s + nf j = sumN nf (j + 1)) := by rw [hsj.out]; rfl
          have hl := HL.out j hlt2
          have hI := HI.out j hlt2
          replace hI : BytesIn wr (Pf j) (nf j) (xf j) := by
            intro hpos
            obtain ⟨bb, oo, e1, e2⟩ := hI hpos
            exact ⟨bb, oo, e1, fun i hi => (hbel.cell (p := ⟨bb, oo + i, none⟩) (World.block_lt_of_cell? w ⟨bb, oo + i, none⟩ (e2 i hi))).trans (e2 i hi)⟩
          have HX : Hid (catL xf j ++ xf j = catL xf (j + 1)) := rfl
          generalize nf j = n1 at hc hc2 hle HN hl hI
          generalize Pf j = p1 at hc hc2 hI
          generalize cf j = c1 at hc hc2
          generalize xf j = y1 at hl hI HX
          obtain ⟨q, cq, hv⟩ := owns_form hown
          subst hv
          clear hc
          go_wp2_with (at_builtin; refine list_spreadA hi hz0 hz1 hz2 (.tmp 31) (.tmp 32) 22 Tryd.underlying22 hown hI hl (by omega) (by omega) hsz (by rfl) (by rfl) (by rfl) (by rfl) ?_; intro p' cap w3 ho3 hb3; rw [HX.out] at ho3)
          go_roundw
          case rel => exact ⟨j + 1, s + n1, by omega, by go_num, HN, ho3, hbel.trans hb3⟩
          case measure => simp [intOf]; omega
        · obtain rfl : j = k := by omega
          obtain rfl : s = N := hsj.out.trans HNn.out
          obtain ⟨q, cq, hv⟩ := owns_form hown
          subst hv
          go_wp2
          go_ret
          rw [HNn.out]
          exact ⟨_, _, rfl, .of hown, hbel⟩

end Go.Proofs.YtdjdanpicbaieaaDoor

namespace Go.Proofs.YtdjdanpicbaieaaDoor
open Go.RowKit
set_option maxRecDepth 100000

/-- How many noughts. -/
def zerosN (n : Nat) : Nat := (64 - (n + 9) % 64) % 64
theorem zerosN_lt (n : Nat) : zerosN n < 64 := by unfold zerosN; omega
/-- The eight bytes at the end. -/
def lenL (n : Nat) : List Int := (littleL (8 * (n : Int)) 8).reverse
theorem lenL_length (n : Nat) : (lenL n).length = 8 := by simp [lenL, littleL_length]
def padN (n : Nat) : Nat := if n ≤ 4000 then n + 1 + zerosN n + 8 else 0
def padL (xs : List Int) : List Int := if xs.length ≤ 4000 then xs ++ [128] ++ List.replicate (zerosN xs.length) 0 ++ lenL xs.length else []

theorem padN_le (n : Nat) : padN n ≤ 4200 := by
  have := zerosN_lt n
  unfold padN
  split <;> omega

theorem fit8 {n : Nat} (h : n ≤ 4000) : fitN (8 * (n : Int)) 8 = 8 ∧ fitL (8 * (n : Int)) 8 = littleL (8 * (n : Int)) 8 := by
  have h : fitN (8 * (n : Int)) 8 = 8 := fit_yes ⟨by omega, by omega, by omega⟩
  exact ⟨h, by unfold fitL; rw [h]⟩
theorem implGreat8 (n : Nat) (w : World) (hn : n ≤ 4000) :
    Calls Tryd.prog 60 #[.int .i64 (8 * (n : Int)), .int .i64 8] w fun e w' => ∃ p c, e = .returned (.slice p 8 c) ∧ Own 5 w' w.heap.size w'.heap.size (.slice p 8 c) 8 (lenL n) ∧ Below w.heap.size w w' := by
  have h := implGreat_any (8 * (n : Int)) 8 w (by omega)
  rw [(fit8 hn).1, (fit8 hn).2] at h
  exact h
theorem specGreat8 (n : Nat) (w : World) (hn : n ≤ 4000) :
    Calls Tryd.prog 31 #[.int .i64 (8 * (n : Int)), .int .i64 8] w fun e w' => ∃ p c, e = .returned (.slice p 8 c) ∧ Own 5 w' w.heap.size w'.heap.size (.slice p 8 c) 8 (lenL n) ∧ Below w.heap.size w w' := by
  have h := specGreat_any (8 * (n : Int)) 8 w (by omega)
  rw [(fit8 hn).1, (fit8 hn).2] at h
  exact h

theorem padConcat (p pg : Option Addr) (n c B1 B2 z cg : Nat) (xs ys : List Int) (w w0 : World) (hx : xs.length = n) (hy : ys.length = 8) (hn : n ≤ 4000) (hz : z < 64) (hw : Below w.heap.size w w0)
    (i0 : BytesIn w0 p n xs) (i1 : BytesIn w0 (some ⟨B1, 0, none⟩) 1 [128]) (i2 : BytesIn w0 (some ⟨B2, 0, none⟩) z (List.replicate z 0)) (i3 : BytesIn w0 pg 8 ys) (gr : Nat) (hgr : w0.heap.size = gr) :
    Calls Tryd.prog 47 #[.slice (some ⟨gr, 0, none⟩) 4 4] (w0.alloc (.cells #[.slice p n c, .slice (some ⟨B1, 0, none⟩) 1 1, .slice (some ⟨B2, 0, none⟩) z z, .slice pg 8 cg] 22)) fun e w' =>
      ∃ p' c', e = .returned (.slice p' (n + 1 + z + 8) c') ∧ Own 5 w' w.heap.size w'.heap.size (.slice p' (n + 1 + z + 8) c') (n + 1 + z + 8) (xs ++ [128] ++ List.replicate z 0 ++ ys) ∧ Below w.heap.size w w' := by
  subst hgr
  have ba : Below w0.heap.size w0 (w0.alloc (.cells #[.slice p n c, .slice (some ⟨B1, 0, none⟩) 1 1, .slice (some ⟨B2, 0, none⟩) z z, .slice pg 8 cg] 22)) := (Below.refl _ _).alloc (Nat.le_refl _) _
  have hs : sumN (fun k => match k with | 0 => n | 1 => 1 | 2 => z | _ => 8) 4 = n + 1 + z + 8 := by simp [sumN]
  have hc : catL (fun k => match k with | 0 => xs | 1 => [128] | 2 => List.replicate z 0 | _ => ys) 4 = xs ++ [128] ++ List.replicate z 0 ++ ys := by simp [catL]
  have h := concat_any w0.heap.size 4 (fun k => match k with | 0 => p | 1 => some ⟨B1, 0, none⟩ | 2 => some ⟨B2, 0, none⟩ | _ => pg) (fun k => match k with | 0 => n | 1 => 1 | 2 => z | _ => 8) (fun k => match k with | 0 => c | 1 => 1 | 2 => z | _ => cg) (fun k => match k with | 0 => xs | 1 => [128] | 2 => List.replicate z 0 | _ => ys)
    (w0.alloc (.cells #[.slice p n c, .slice (some ⟨B1, 0, none⟩) 1 1, .slice (some ⟨B2, 0, none⟩) z z, .slice pg 8 cg] 22)) (by decide)
    (fun k hk => by
      rw [cell_of_row _ _ k _ _ _ (heap_alloc_new w0 _)]
      match k, hk with
      | 0, _ => rfl
      | 1, _ => rfl
      | 2, _ => rfl
      | 3, _ => rfl)
    (fun k hk => by
      match k, hk with
      | 0, _ => exact hx
      | 1, _ => rfl
      | 2, _ => exact List.length_replicate
      | 3, _ => exact hy)
    (fun k hk => by
      match k, hk with
      | 0, _ => exact in_below i0 ba
      | 1, _ => exact in_below i1 ba
      | 2, _ => exact in_below i2 ba
      | 3, _ => exact in_below i3 ba)
    (by rw [hs]; omega) (by rw [hs]; omega)
  rw [hs, hc] at h
  refine h.mono ?_
  rintro e w' ⟨p', c', rfl, r, b⟩
  have hs0 := hw.size
  exact ⟨p', c', rfl, ⟨owns_mono r.1 (by simp; omega), r.2⟩, below_on (below_on hw ba) b⟩

theorem in_128 (w : World) (ty : Nat) : BytesIn (w.alloc (.cells #[.int .u8 128] ty)) (some ⟨w.heap.size, 0, none⟩) 1 [128] := by
  intro _
  refine ⟨w.heap.size, 0, rfl, fun i hi => ?_⟩
  obtain rfl : i = 0 := by omega
  exact cell_of_row _ _ _ _ _ _ (heap_alloc_new w _)
theorem in_zeros (w : World) (ty z : Nat) : BytesIn (w.alloc (.cells (madeCells #[.int .u8 0] z) ty)) (some ⟨w.heap.size, 0, none⟩) z (List.replicate z 0) := by
  intro _
  refine ⟨w.heap.size, 0, rfl, fun i hi => ?_⟩
  rw [cell_of_row _ _ _ _ _ _ (heap_alloc_new w _)]
  have := toList_madeCells_one (.int .u8 0) z
  rw [← Array.getElem?_toList, this]
  simp [hi]
theorem in_128' (w : World) (ty B : Nat) (h : w.heap.size = B) : BytesIn (w.alloc (.cells #[.int .u8 128] ty)) (some ⟨B, 0, none⟩) 1 [128] := by
  subst h
  exact in_128 w ty
theorem in_zeros' (w : World) (ty z B : Nat) (h : w.heap.size = B) : BytesIn (w.alloc (.cells (madeCells #[.int .u8 0] z) ty)) (some ⟨B, 0, none⟩) z (List.replicate z 0) := by
  subst h
  exact in_zeros w ty z
theorem in_alloc {w : World} {p : Option Addr} {n : Nat} {xs : List Int} (h : BytesIn w p n xs) (o : Obj) : BytesIn (w.alloc o) p n xs := in_below h ((Below.refl _ _).alloc (Nat.le_refl _) _)
theorem below_alloc' {a w : World} (h : Below a.heap.size a w) (o : Obj) : Below a.heap.size a (w.alloc o) := h.alloc h.size o
theorem below_drew' {a w : World} (h : Below a.heap.size a w) : Below a.heap.size a w.drew := h.drew
theorem in_drew {w : World} {p : Option Addr} {n : Nat} {xs : List Int} (h : BytesIn w p n xs) : BytesIn w.drew p n xs := in_below h (Below.refl _ _).drew

theorem implPad_no (p : Option Addr) (n c : Nat) (w : World) (h : ¬ n ≤ 4000) :
    Calls Tryd.prog 100 #[.slice p n c] w fun e w' => e = .returned (.slice none 0 0) ∧ w' = w := by
  have c1 : (4000 : Int) < (n : Int) := by omega
  go_enter Tryd.func100, Tryd.ntmps100
  go_wp2
  go_ret
  exact ⟨rfl, rfl⟩

set_option maxHeartbeats 4000000 in
theorem specPad_any (p : Option Addr) (n c : Nat) (xs : List Int) (w : World) (hn0 : n ≤ 9223372036854775807) (hx : xs.length = n) (h : BytesIn w p n xs) :
    Calls Tryd.prog 72 #[.slice p n c] w fun e w' => ∃ p' c', e = .returned (.slice p' (padN n) c') ∧ Own 5 w' w.heap.size w'.heap.size (.slice p' (padN n) c') (padN n) (padL xs) ∧ Below w.heap.size w w' := by
  obtain ⟨i0, hi, hz0, hz1, hz2⟩ := info_parts infoByte
  unfold padN padL
  rw [hx]
  by_cases hn : n ≤ 4000
  · rw [if_pos hn, if_pos hn]
    have hzl := zerosN_lt n
    have HZ : Hid (zerosN n = (64 - (n + 9) % 64) % 64) := rfl
    have C := fun w => specGreat8 n w hn
    have hll := lenL_length n
    generalize zerosN n = Z at hzl HZ ⊢
    generalize lenL n = T at C hll ⊢
    go_enter Tryd.func72, Tryd.ntmps72
    have hown0 : (w.alloc (.cells #[] 5)).ownsRow w.heap.size 5 1 (.slice (some ⟨w.heap.size, 0, none⟩) 0 0) 0 (([] : List Int).map (Value.int .u8)) := World.ownsRow_made w #[] 0 (Nat.le_refl _) (by unfold maxLen; omega) rfl
    have hb0 : Below w.heap.size w (w.alloc (.cells #[] 5)) := (Below.refl _ _).alloc (Nat.le_refl _) _
    have h1 := in_below h hb0
    have hlen : xs.length = n := hx
    clear hx h
    go_wp2_with (first | (at_builtin; refine list_spreadA hi hz0 hz1 hz2 (.tmp 8) (.tmp 9) 22 Tryd.underlying22 hown0 h1 hlen (by omega) (by omega) (by simp) (by rfl) (by rfl) (by rfl) (by rfl) ?_; intro p1 cap1 w1 ho1 hb1; simp only [Nat.zero_add, List.nil_append] at ho1 ⊢; have hs1 : w.heap.size ≤ w1.heap.size := (hb0.trans hb1).size) | (at_builtin; refine list_push hi hz0 hz1 hz2 (.tmp 10) (.tmp 11) 22 Tryd.underlying22 _ ho1 (by omega) hs1 (by rfl) (by rfl) (by rfl) (by rfl) ?_; intro g2 cap2 w2 ho2 hb2))
    have bel2 : Below w.heap.size w w2 := (hb0.trans hb1).trans hb2
    clear hown0 hb0 h1 ho1 hb1 hb2 hs1
    go_loopw [3] (fun v wr => ∃ k m : Nat, k ≤ Z ∧ Hid (m = n + 1 + k) ∧ wr.ownsRow w.heap.size 5 1 v m ((xs ++ [128] ++ List.replicate k 0).map (Value.int .u8)) ∧ Below w.heap.size w wr)
      (fun v _ => match v with | .slice _ m _ => n + 1 + Z - m | _ => 0)
    case atStart => exact ⟨0, n + 1, by omega, rfl, by simpa using ho2, bel2⟩
    case round =>
      clear ho2 bel2
      obtain ⟨k, m, hk, hm, hown, hbel⟩ := hrel
      have hsz := hbel.size
      obtain ⟨q, cq, hv⟩ := owns_form hown
      subst hv
      have hmb : m ≤ 5000 := by have := hm.out; omega
      by_cases hlt : k < Z
      · have d1 : ((m : Int) % 64 != 56) = true := by
          have := hm.out
          have := HZ.out
          have : (m : Int) % 64 ≠ 56 := by omega
          simpa using this
        have HX : Hid (xs ++ [128] ++ List.replicate k 0 ++ [0] = xs ++ [128] ++ List.replicate (k + 1) 0) := by
          rw [Hid, List.append_assoc _ _ [0], ← List.replicate_succ']
        go_wp2_with (at_builtin; refine list_push hi hz0 hz1 hz2 (.tmp 17) (.tmp 18) 22 Tryd.underlying22 _ hown (by omega) hsz (by rfl) (by rfl) (by rfl) (by rfl) ?_; intro g3 cap3 w3 ho3 hb3; rw [HX.out] at ho3)
        go_roundw
        case rel => exact ⟨k + 1, m + 1, by omega, by have := hm.out; rw [Hid]; omega, ho3, hbel.trans hb3⟩
        case measure => have := hm.out; show n + 1 + Z - (m + 1) < n + 1 + Z - m; omega
      · obtain rfl : k = Z := by omega
        have d1 : ((m : Int) % 64 != 56) = false := by
          have := hm.out
          have := HZ.out
          have : (m : Int) % 64 = 56 := by omega
          simp [this]
        go_wp2_with (fail)
        refine (C _).mono ?_
        rintro e w3 ⟨p3, c3, rfl, r3, b3⟩
        replace hown := owns_below hown b3
        replace hbel := below_on hbel b3
        have hin := r3.bytes
        have hsz3 := hbel.size
        clear r3 b3 C
        go_wp2_with (at_builtin; refine list_spreadA hi hz0 hz1 hz2 (.tmp 20) (.tmp 24) 22 Tryd.underlying22 hown hin hll (by omega) (by omega) hsz3 (by rfl) (by rfl) (by rfl) (by rfl) ?_; intro p4 cap4 w4 ho4 hb4)
        go_ret
        rw [hm.out] at ho4 ⊢
        exact ⟨_, _, rfl, .of ho4, hbel.trans hb4⟩
  · rw [if_neg hn, if_neg hn]
    have c1 : (4000 : Int) < (n : Int) := by omega
    clear h hx
    go_enter Tryd.func72, Tryd.ntmps72
    go_wp2
    go_ret
    exact ⟨_, _, rfl, .of (World.ownsRow_made w #[] 0 (Nat.le_refl _) (by unfold maxLen; omega) rfl), (Below.refl _ _).alloc (Nat.le_refl _) _⟩

set_option maxHeartbeats 4000000 in
theorem implPad_yes (p : Option Addr) (n c : Nat) (xs : List Int) (w : World) (hx : xs.length = n) (h : BytesIn w p n xs) (hn : n ≤ 4000) :
    Calls Tryd.prog 100 #[.slice p n c] w fun e w' => ∃ p' c', e = .returned (.slice p' (n + 1 + zerosN n + 8) c') ∧ Own 5 w' w.heap.size w'.heap.size (.slice p' (n + 1 + zerosN n + 8) c') (n + 1 + zerosN n + 8) (xs ++ [128] ++ List.replicate (zerosN n) 0 ++ lenL n) ∧ Below w.heap.size w w' := by
  obtain ⟨i0, hi, hz0, hz1, hz2⟩ := info_parts infoByte
  have hzl := zerosN_lt n
  obtain ⟨ov, hov⟩ : ∃ ov : Nat, ov = (n + 9) % 64 := ⟨_, rfl⟩
  have hZ : zerosN n = (64 - ov) % 64 := by rw [hov]; rfl
  have C := fun w => implGreat8 n w hn
  have hll := lenL_length n
  generalize zerosN n = Z at hzl hZ ⊢
  generalize lenL n = T at C hll ⊢
  have r1 : ((n : Int) + 1 + 8).tmod 64 = (ov : Int) := by rw [Int.tmod_eq_emod_of_nonneg (by omega)]; omega
  have r1' : ((n : Int) + 1 + 8) % 64 = (ov : Int) := by omega
  have r2 : (64 - (ov : Int)).tmod 64 = (Z : Int) := by rw [Int.tmod_eq_emod_of_nonneg (by omega)]; omega
  have r2' : (64 - (ov : Int)) % 64 = (Z : Int) := by omega
  have hov2 : ov < 64 := by omega
  clear hov hZ
  have hmk : ∀ W : World, (Instr.makeSlice 22 (.int .i64 (Z : Int)) (.int .i64 (Z : Int))).run Tryd.prog W = .ok (.slice (some ⟨W.heap.size, 0, none⟩) Z Z) (W.alloc (.cells (madeCells #[.int .u8 0] Z) 5)) := by
    intro W
    have := run_makeSlice (P := Tryd.prog) W 22 5 i0 (.int .u8 0) Tryd.underlying22 hi hz0 .i64 .i64 Z Z (by omega) (by omega) (by rw [hz1]; simp; omega) (by rw [hz2]; omega) (by omega)
    simpa [hz1, Value.cells] using this
  have q8 : IntKind.i64.wrap (8 * (n : Int)) = 8 * (n : Int) := by rw [IntKind.wrap_i64]; omega
  clear hi hz0 hz1 hz2
  go_enter Tryd.func100, Tryd.ntmps100
  go_wp2_with (fail)
  go_region_held3 (fun _ => True) (trivial) (first | (go_at_call 60; refine (C _).mono ?_; rintro e wg ⟨pg, cg, rfl, rg, bg⟩) | (go_at_call 47; refine (padConcat _ _ n _ _ _ Z _ xs T w _ hx hll hn hzl (by repeat (with_reducible (first | exact Below.refl _ _ | refine below_alloc' ?_ _ | refine below_drew' ?_ | refine below_on ?_ bg))) (by repeat (with_reducible (first | exact rg.bytes | exact in_128' _ _ _ (by simp) | exact in_zeros' _ _ _ _ (by simp) | exact h | refine in_alloc ?_ _ | refine in_drew ?_ | refine in_below ?_ bg))) (by repeat (with_reducible (first | exact rg.bytes | exact in_128' _ _ _ (by simp) | exact in_zeros' _ _ _ _ (by simp) | exact h | refine in_alloc ?_ _ | refine in_drew ?_ | refine in_below ?_ bg))) (by repeat (with_reducible (first | exact rg.bytes | exact in_128' _ _ _ (by simp) | exact in_zeros' _ _ _ _ (by simp) | exact h | refine in_alloc ?_ _ | refine in_drew ?_ | refine in_below ?_ bg))) (by repeat (with_reducible (first | exact rg.bytes | exact in_128' _ _ _ (by simp) | exact in_zeros' _ _ _ _ (by simp) | exact h | refine in_alloc ?_ _ | refine in_drew ?_ | refine in_below ?_ bg))) _ (by simp)).mono ?_; rintro e wk ⟨pk, ck, rfl, rk, bk⟩))
  all_goals
    go_wp2
    go_ret
    exact ⟨_, _, rfl, rk, bk⟩

theorem implPad_any (p : Option Addr) (n c : Nat) (xs : List Int) (w : World) (_hn0 : n ≤ 9223372036854775807) (hx : xs.length = n) (h : BytesIn w p n xs) :
    Calls Tryd.prog 100 #[.slice p n c] w fun e w' => ∃ p' c', e = .returned (.slice p' (padN n) c') ∧ Own 5 w' w.heap.size w'.heap.size (.slice p' (padN n) c') (padN n) (padL xs) ∧ Below w.heap.size w w' := by
  unfold padN padL
  rw [hx]
  by_cases hn : n ≤ 4000
  · rw [if_pos hn, if_pos hn]
    exact implPad_yes p n c xs w hx h hn
  · rw [if_neg hn, if_neg hn]
    refine (implPad_no p n c w hn).mono ?_
    rintro e w1 ⟨rfl, rfl⟩
    exact ⟨_, _, rfl, .of (World.ownsRow_nil _ _ _ _), Below.refl _ _⟩

end Go.Proofs.YtdjdanpicbaieaaDoor

namespace Go.Proofs.YtdjdanpicbaieaaDoor
open Go.RowKit
set_option maxRecDepth 100000

def startN : List Nat := [0x6a09e667, 0xbb67ae85, 0x3c6ef372, 0xa54ff53a, 0x510e527f, 0x9b05688c, 0x1f83d9ab, 0x5be0cd19]
def startL : List Int := startN.map fun (n : Nat) => (n : Int)

theorem owns_start (w : World) (ty : Nat) :
    OwnI ty (w.alloc (.cells #[.int .i64 0x6a09e667, .int .i64 0xbb67ae85, .int .i64 0x3c6ef372, .int .i64 0xa54ff53a, .int .i64 0x510e527f, .int .i64 0x9b05688c, .int .i64 0x1f83d9ab, .int .i64 0x5be0cd19] ty)) w.heap.size (w.heap.size + 1) (.slice (some ⟨w.heap.size, 0, none⟩) 8 8) 8 startL := by
  refine ⟨⟨rfl, .inr ⟨w.heap.size, 8, _, rfl, Nat.le_refl _, heap_alloc_new w _, Nat.le_refl _, by unfold maxLen; omega, rfl, rfl⟩⟩, ?_⟩
  intro k hk
  simp [Value.ownBlock] at hk
  omega

theorem specStart_any (w : World) :
    Calls Tryd.prog 73 #[] w fun e w' => ∃ p c, e = .returned (.slice p 8 c) ∧ OwnI 3 w' w.heap.size w'.heap.size (.slice p 8 c) 8 startL ∧ Below w.heap.size w w' := by
  go_enter Tryd.func73, Tryd.ntmps73
  go_wp2
  go_ret
  exact ⟨_, _, rfl, .of (owns_start w 3).1, (Below.refl _ _).alloc (Nat.le_refl _) _⟩

theorem implStart_any (w : World) :
    Calls Tryd.prog 78 #[] w fun e w' => ∃ p c, e = .returned (.slice p 8 c) ∧ OwnI 3 w' w.heap.size w'.heap.size (.slice p 8 c) 8 startL ∧ Below w.heap.size w w' := by
  go_enter Tryd.func78, Tryd.ntmps78
  go_wp2
  go_ret
  exact ⟨_, _, rfl, .of (owns_start w 3).1, (Below.refl _ _).alloc (Nat.le_refl _) _⟩

end Go.Proofs.YtdjdanpicbaieaaDoor

namespace Go.Proofs.YtdjdanpicbaieaaDoor
open Go.RowKit

theorem startN_lt : ∀ x ∈ startN, x < 4294967296 := by decide
theorem zerosN_def (n : Nat) : zerosN n = (64 - (n + 9) % 64) % 64 := rfl
/-- The words behind k blocks. -/
def foldN (zs : List Int) (k : Nat) : List Nat := foldF startN zs k
theorem foldN_lt (zs : List Int) (k : Nat) : ∀ x ∈ foldN zs k, x < 4294967296 := foldF_lt startN_lt zs k
theorem foldN_length (zs : List Int) (k : Nat) : (foldN zs k).length = 8 := foldF_length rfl zs k
theorem wordsN_nats {l : List Nat} (h : ∀ x ∈ l, x < 4294967296) : wordsN (natsL l) = l := by
  induction l with
  | nil => rfl
  | cons a l ih =>
    have ha := h a (by simp)
    have hl := ih (fun x hx => h x (by simp [hx]))
    simp only [natsL, wordsN, List.map_cons] at hl ⊢
    rw [hl]
    congr 1
    unfold wordN
    omega
theorem foldN_step (zs : List Int) (k : Nat) : blockN (wsOf ((zs.drop (64 * k)).take 64)) (wordsN (natsL (foldN zs k))) = foldN zs (k + 1) := by rw [wordsN_nats (foldN_lt zs k)]; rfl
def hashN (n : Nat) : Nat := if n ≤ 4000 then 32 else 0
def hashL (xs : List Int) : List Int := if xs.length ≤ 4000 then bytesL true (natsL (foldN (padL xs) (padN xs.length / 64))) else []
theorem padL_length (xs : List Int) : (padL xs).length = padN xs.length := by
  unfold padL padN
  split
  · simp [lenL_length]; omega
  · rfl
theorem padL_byte {xs : List Int} (hb : ∀ x ∈ xs, 0 ≤ x ∧ x < 256) : ∀ x ∈ padL xs, 0 ≤ x ∧ x < 256 := by
  intro x hx
  unfold padL at hx
  split at hx
  · simp only [List.mem_append, List.mem_singleton, lenL, littleL, List.mem_reverse, List.mem_map] at hx
    rcases hx with ((hx | hx) | hx) | ⟨i, _, rfl⟩
    · exact hb x hx
    · omega
    · have := List.eq_of_mem_replicate hx
      omega
    · omega
  · simp at hx
theorem pad64 {n : Nat} (h : n ≤ 4000) : padN n = 64 * (padN n / 64) ∧ padN n ≤ 4096 := by
  have hz : zerosN n = (64 - (n + 9) % 64) % 64 := rfl
  have : padN n = n + 1 + zerosN n + 8 := if_pos h
  omega

set_option maxHeartbeats 4000000 in
theorem specHash_yes (p : Option Addr) (n c : Nat) (xs : List Int) (w : World) (hn : n ≤ 4000) (hx : xs.length = n) (h : BytesIn w p n xs) (hb : ∀ x ∈ xs, 0 ≤ x ∧ x < 256) :
    Calls Tryd.prog 57 #[.slice p n c] w fun e w' => ∃ p' c', e = .returned (.slice p' 32 c') ∧ Own 5 w' w.heap.size w'.heap.size (.slice p' 32 c') 32 (bytesL true (natsL (foldN (padL xs) (padN n / 64)))) ∧ Below w.heap.size w w' := by
  have C := fun w h => specPad_any p n c xs w (by omega) hx h
  have hzl : (padL xs).length = padN n := by rw [padL_length, hx]
  have hzb := padL_byte hb
  obtain ⟨hM, hM2⟩ := pad64 hn
  generalize hK : padN n / 64 = K at hM ⊢
  clear hK
  generalize padN n = M at C hzl hM hM2
  generalize padL xs = zs at C hzl hzb ⊢
  have hMK : Hid (M = 64 * K) := hM
  clear hM
  go_enter Tryd.func57, Tryd.ntmps57
  go_wp2_with (fail)
  refine (C _ h).mono ?_
  rintro e w1 ⟨p1, c1, rfl, r1, b1⟩
  clear C h
  go_wp2_with (fail)
  refine (specStart_any _).mono ?_
  rintro e w2 ⟨p2, c2, rfl, r2, b2⟩
  have bel := below_on b1 b2
  have hin := (r1.on b2).bytes
  have hcap := r1.cap
  have hs0 : IntsIn w2 p2 8 (natsL (foldN zs 0)) := r2.ints
  clear r1 r2 b1 b2
  go_wp2_with (fail)
  go_loopw [4, 5] (fun v i wr => ∃ (k j : Nat) (p3 : Option Addr) (c3 : Nat), k ≤ K ∧ Hid (j = 64 * k) ∧ i = .int .i64 j ∧ v = .slice p3 8 c3 ∧ IntsIn wr p3 8 (natsL (foldN zs k)) ∧ Below w2.heap.size w2 wr)
    (fun _ i _ => M + 64 - (intOf i).toNat)
  case atStart => exact ⟨0, 0, p2, c2, by omega, rfl, rfl, rfl, hs0, Below.refl _ _⟩
  case round =>
    clear hs0
    obtain ⟨k, j, p3, c3, hk, hj, rfl, rfl, hI, hbl⟩ := hrel
    have hj2 : j ≤ M := by have := hj.out; have := hMK.out; omega
    by_cases hlt : k < K
    · have hjl : j + 64 ≤ M := by have := hj.out; have := hMK.out; omega
      have hjl2 : j + 63 < M := by omega
      obtain ⟨b, o, rfl, hc⟩ := hin (by omega)
      have hX : ((zs.drop j).take 64).length = 64 := by simp [hzl]; omega
      have hXb := part_byte hzb j
      have HQ : ∀ q, q = some ⟨b, o + j, none⟩ → BytesIn wr q 64 ((zs.drop j).take 64) := by
        intro q hq _
        refine ⟨b, o + j, hq, fun i hi => ?_⟩
        have hci := hc (j + i) (by omega)
        rw [Nat.add_assoc, hbl.cell (p := ⟨b, o + (j + i), none⟩) (World.block_lt_of_cell? w2 ⟨b, o + (j + i), none⟩ hci), hci]
        simp [List.getD, hi]
      have HF : Hid (blockN (wsOf ((zs.drop j).take 64)) (wordsN (natsL (foldN zs k))) = foldN zs (k + 1)) := by rw [Hid, hj.out]; exact foldN_step zs k
      have CB := fun q d h => specHashBlock_yes p3 q c3 d (natsL (foldN zs k)) ((zs.drop j).take 64) wr hX hI h hXb
      rw [HF.out] at CB
      clear hc HF hX hXb hI
      go_wp2_with (fail)
      refine (CB _ _ (HQ _ (by first | rfl | exact if_neg (by omega) | simp [Addr.add]))).mono ?_
      rintro e w4 ⟨p4, c4, rfl, r4, b4⟩
      clear CB HQ
      have hI4 := r4.ints
      clear r4
      go_wp2
      go_roundw
      case rel => exact ⟨k + 1, j + 64, p4, c4, by omega, by have := hj.out; rw [Hid]; omega, by go_num, rfl, hI4, below_on hbl b4⟩
      case measure => simp [intOf]; omega
    · have hkK : k = K := by omega
      have hnl : ¬ ((j : Int) + 63 < (M : Int)) := by have := hj.out; have := hMK.out; omega
      have hl8 : (natsL (foldN zs k)).length = 8 := by rw [natsL_length, foldN_length]
      have CW := fun w h => specWordBytes_any p3 8 c3 true (natsL (foldN zs k)) w (by omega) hl8 h
      rw [hkK] at CW hI
      clear hin
      go_wp2_with (fail)
      refine (CW _ hI).mono ?_
      rintro e w5 ⟨p5, c5, rfl, r5, b5⟩
      go_wp2
      go_ret
      have hs := bel.size
      have hs2 := hbl.size
      exact ⟨_, _, rfl, ⟨owns_mono r5.1 (by omega), r5.2⟩, below_on (below_on bel hbl) b5⟩

set_option maxRecDepth 100000 in
set_option maxHeartbeats 400000 in
theorem implHash_yes (p : Option Addr) (n c : Nat) (xs : List Int) (w : World) (hn : n ≤ 4000) (hx : xs.length = n) (h : BytesIn w p n xs) (hb : ∀ x ∈ xs, 0 ≤ x ∧ x < 256) (hKey : KeysIs w) :
    Calls Tryd.prog 76 #[.slice p n c] w fun e w' => ∃ p' c', e = .returned (.slice p' 32 c') ∧ Own 5 w' w.heap.size w'.heap.size (.slice p' 32 c') 32 (bytesL true (natsL (foldN (padL xs) (padN n / 64)))) ∧ Below w.heap.size w w' := by
  have C := fun w h => implPad_any p n c xs w (by omega) hx h
  have hzl : (padL xs).length = padN n := by rw [padL_length, hx]
  have hzb := padL_byte hb
  obtain ⟨hM, hM2⟩ := pad64 hn
  have hM3 : 64 ≤ padN n := by have : padN n = n + 1 + zerosN n + 8 := if_pos hn; have hz : zerosN n = (64 - (n + 9) % 64) % 64 := rfl; omega
  generalize hK : padN n / 64 = K at hM ⊢
  clear hK
  generalize padN n = M at C hzl hM hM2 hM3
  generalize padL xs = zs at C hzl hzb ⊢
  have hz := (zero_of_info infoHash).1
  have hsz0 := (zero_of_info infoHash).2
  have m1 := fun X : World => hash_made X w.heap.size (List.replicate 8 0) zeroL zero64 rfl (by simp [zeroL]) (by simp [zero64])
  have hws : wordsN startL = startN := wordsN_nats (by decide)
  have hl : (hashC startN zeroL zero64).length = 136 := by simp [hashC, u32L, u8L, startN, zeroL, zero64]
  have hsz2 : (Tryd.prog.info? 83).map (·.size) = some (hashC startN zeroL zero64).toArray.size := by rw [show (hashC startN zeroL zero64).toArray.size = 136 by simpa using hl]; exact hsz0
  have hone := hashC_one startN zeroL zero64
  obtain ⟨Z, hZ⟩ : ∃ Z, Z = (hashC (List.replicate 8 0) zeroL zero64).toArray := ⟨_, rfl⟩
  rw [← hZ] at hz
  simp only [← hZ] at m1
  clear hZ
  have hlo : 0 < w.heap.size := World.block_lt_of_cell? w ⟨0, 0, none⟩ (hKey 0 (by omega))
  have CN := fun p c X hX => newHash_any p c startL X rfl hX
  rw [hws] at CN
  obtain ⟨Cs, hCs⟩ : ∃ Cs, Cs = hashC startN zeroL zero64 := ⟨_, rfl⟩
  rw [← hCs] at CN hsz2 hone
  have hCl : Cs.toArray.size = 136 := by rw [hCs]; simpa using hl
  replace hCs : Hid (Cs = hashC startN zeroL zero64) := hCs
  clear hl hws
  go_enter Tryd.func76, Tryd.ntmps76
  go_wp2_with (fail)
  refine (implStart_any _).mono ?_
  rintro e w0 ⟨p0, c0, rfl, r0, b0⟩
  go_wp2_with (fail)
  refine (CN _ _ _ r0.ints).mono ?_
  rintro e w1 ⟨rfl, b01⟩
  have b1 := below_on b0 b01
  clear CN b0 b01 r0
  have h2 := m1 w1 b1.size
  have bA : Below w.heap.size w (w1.alloc (.cells Z 83)) := b1.alloc b1.size _
  have hth : (w1.alloc (.cells Z 83)).there w1.heap.size 0 Cs.toArray.size := by rw [hCl]; exact h2.there 0 136 (by omega)
  have hp := h2.put (show startN.length = 8 from rfl) (show zeroL.length = 64 by simp [zeroL]) (show zero64.length = 64 by simp [zero64])
  rw [← hCs.out] at hp
  have bB : Below w.heap.size w ((w1.alloc (.cells Z 83)).setCells w1.heap.size 0 Cs) := bA.grown hp.2 bA.size (fun k hk => by cases hk; exact b1.size)
  have hH := hp.1
  clear hp h2 bA m1
  go_wp2_with (refine wpList_store_mid rfl 83 _ _ rfl w1.heap.size 0 Cs.toArray rfl rfl hth hsz2 (all_oneCell_toArray hone) ?_)
  generalize (w1.alloc (.cells Z 83)).setCells w1.heap.size 0 Cs = w2 at bB hH ⊢
  refine (C _ (in_below h bB)).mono ?_
  rintro e w3 ⟨p3, c3, rfl, r3, b3⟩
  clear C h hth hz
  have bel := below_on bB b3
  have hH3 := hH.below b3
  rw [← zeroL_spread] at hH3
  have hg2 := hH.lt
  have hcap := r3.cap
  have hin := r3.bytes
  have hne : ∀ b q, p3 = some ⟨b, q, none⟩ → b ≠ w1.heap.size := fun b q e => by
    obtain ⟨g3, rfl⟩ := owns_at r3.1 (by omega)
    simp only [Option.some.injEq, Addr.mk.injEq] at e
    have := r3.1.lt g3 rfl
    omega
  have hle1 := b1.size
  have hK3 : KeysIs w3 := fun t ht => (bel.cell (p := ⟨0, t, none⟩) hlo).trans (hKey t ht)
  have CT := takeAll_any _ _ _ _ _ w.heap.size w1.heap.size startN zeroL zs p3 M c3 K w3 startN_lt zeroL_byte hzl hzb hM (by omega) hcap hH3 hK3 hlo hin hne
  generalize w1.heap.size = g at CT hg2 hle1 ⊢
  clear hH hH3 r3 b3 hsz0 hsz2 hone hCl hCs hin hne hK3 hM hM2 hM3 hzl hzb bB hKey hb hx
  go_wp2_with (fail)
  refine CT.mono ?_
  rintro e w4 ⟨rfl, L, h4, hLb, g4⟩
  clear CT
  have belr : Below w.heap.size w w4 := bel.grown g4 bel.size (fun i hi => by cases hi; exact hle1)
  rw [show foldF startN zs K = foldN zs K from rfl] at h4
  have CW := sum_any _ _ _ _ _ w.heap.size g _ L _ w4 (foldN_lt zs K) h4
  clear h4 hLb g4 bel
  go_wp2_with (fail)
  refine CW.mono ?_
  rintro e w5 ⟨p5, c5, rfl, r5, b5⟩
  go_wp2
  go_ret
  have hs := belr.size
  exact ⟨_, _, rfl, ⟨owns_mono r5.1 (by omega), r5.2⟩, below_on belr b5⟩

theorem specHash_no (p : Option Addr) (n c : Nat) (w : World) (hn : ¬ n ≤ 4000) :
    Calls Tryd.prog 57 #[.slice p n c] w fun e w' => ∃ p' c', e = .returned (.slice p' 0 c') ∧ Own 5 w' w.heap.size w'.heap.size (.slice p' 0 c') 0 [] ∧ Below w.heap.size w w' := by
  have c1 : (4000 : Int) < (n : Int) := by omega
  go_enter Tryd.func57, Tryd.ntmps57
  go_wp2
  go_ret
  exact ⟨_, _, rfl, .of (World.ownsRow_made w #[] 0 (Nat.le_refl _) (by unfold maxLen; omega) rfl), (Below.refl _ _).alloc (Nat.le_refl _) _⟩
theorem specHash_any (p : Option Addr) (n c : Nat) (xs : List Int) (w : World) (hx : xs.length = n) (h : BytesIn w p n xs) (hb : ∀ x ∈ xs, 0 ≤ x ∧ x < 256) :
    Calls Tryd.prog 57 #[.slice p n c] w fun e w' => ∃ p' c', e = .returned (.slice p' (hashN n) c') ∧ Own 5 w' w.heap.size w'.heap.size (.slice p' (hashN n) c') (hashN n) (hashL xs) ∧ Below w.heap.size w w' := by
  unfold hashN hashL
  rw [hx]
  by_cases hn : n ≤ 4000
  · rw [if_pos hn, if_pos hn]
    exact specHash_yes p n c xs w hn hx h hb
  · rw [if_neg hn, if_neg hn]
    exact specHash_no p n c w hn

theorem implHash_no (p : Option Addr) (n c : Nat) (w : World) (hn : ¬ n ≤ 4000) :
    Calls Tryd.prog 76 #[.slice p n c] w fun e w' => ∃ p' c', e = .returned (.slice p' 0 c') ∧ Own 5 w' w.heap.size w'.heap.size (.slice p' 0 c') 0 [] ∧ Below w.heap.size w w' := by
  have c1 : (4000 : Int) < (n : Int) := by omega
  go_enter Tryd.func76, Tryd.ntmps76
  go_wp2
  go_ret
  exact ⟨_, _, rfl, .of (World.ownsRow_nil _ _ _ _), Below.refl _ _⟩
theorem implHash_any (p : Option Addr) (n c : Nat) (xs : List Int) (w : World) (hx : xs.length = n) (h : BytesIn w p n xs) (hb : ∀ x ∈ xs, 0 ≤ x ∧ x < 256) (hK : KeysIs w) :
    Calls Tryd.prog 76 #[.slice p n c] w fun e w' => ∃ p' c', e = .returned (.slice p' (hashN n) c') ∧ Own 5 w' w.heap.size w'.heap.size (.slice p' (hashN n) c') (hashN n) (hashL xs) ∧ Below w.heap.size w w' := by
  unfold hashN hashL
  rw [hx]
  by_cases hn : n ≤ 4000
  · rw [if_pos hn, if_pos hn]
    exact implHash_yes p n c xs w hn hx h hb hK
  · rw [if_neg hn, if_neg hn]
    exact implHash_no p n c w hn

theorem hashN_le (n : Nat) : hashN n ≤ 32 := by unfold hashN; split <;> omega

end Go.Proofs.YtdjdanpicbaieaaDoor

namespace Go.Proofs.YtdjdanpicbaieaaDoor
open Go.RowKit

/-- A buffer of 64 cells, the first bp of which hold x. -/
structure Rep (w0 wr : World) (h bp : Nat) (x : Int) : Prop where
  below : Below h w0 wr
  there : ∀ j, j < 64 → (wr.cell? ⟨h, j, none⟩).isSome = true
  free : ∀ j, j < 64 → wr.frozen? ⟨h, j, none⟩ = false
  holds : ∀ j, j < bp → wr.cell? ⟨h, j, none⟩ = some (.int .u8 x)

section
variable {w0 wr : World} {h bp : Nat} {x : Int}
theorem Rep.drew (r : Rep w0 wr h bp x) : Rep w0 wr.drew h bp x := ⟨r.below.drew, r.there, r.free, r.holds⟩
theorem Rep.put (r : Rep w0 wr h bp x) (d : Nat) (hd : bp + d ≤ 64) : Rep w0 (wr.setCells h bp (List.replicate d (.int .u8 x))) h (bp + d) x := by
  have hin := World.cell?_setCells_in h (List.replicate d (Value.int .u8 x)) bp wr (fun j hj => by rw [List.length_replicate] at hj; exact r.there _ (by omega))
  have hout := World.cell?_setCells_out h (List.replicate d (Value.int .u8 x)) bp wr
  refine ⟨Lib.below_setCells h (Nat.le_refl _) _ _ r.below, ?_, ?_, ?_⟩
  · intro j hj
    by_cases h1 : bp ≤ j ∧ j < bp + d
    · obtain ⟨k, rfl⟩ : ∃ k, j = bp + k := ⟨j - bp, by omega⟩
      rw [hin k (by rw [List.length_replicate]; omega)]
      rfl
    · rw [hout ⟨h, j, none⟩ (fun _ _ => by rw [List.length_replicate]; show j < _ ∨ _ ≤ j; omega)]
      exact r.there j hj
  · intro j hj
    rw [World.frozen?_setCells]
    exact r.free j hj
  · intro j hj
    by_cases h1 : j < bp
    · rw [hout ⟨h, j, none⟩ (fun _ _ => Or.inl h1)]
      exact r.holds j h1
    · obtain ⟨k, rfl⟩ : ∃ k, j = bp + k := ⟨j - bp, by omega⟩
      rw [hin k (by rw [List.length_replicate]; omega)]
      simp
theorem Rep.copy {P : Program} (r : Rep w0 wr h bp x) (t ty e : TypeId) (hu : P.underlying t = some (.slice e)) (hs : (P.info? e).map (·.size) = some 1) (d : Nat) (hd : d = Nat.min bp (64 - bp)) (c1 c2 : Nat) :
    (Builtin.copy_ #[t, t] ty #[.slice (some ⟨h, bp, none⟩) (64 - bp) c1, .slice (some ⟨h, 0, none⟩) bp c2]).run P wr = .ok (.int .i64 (d : Int)) (wr.setCells h bp (List.replicate d (.int .u8 x))) := by
  have hl1 : d ≤ bp := by rw [hd]; exact Nat.min_le_left _ _
  have hl2 : d ≤ 64 - bp := by rw [hd]; exact Nat.min_le_right _ _
  have hr := run_copy_cells (P := P) wr t t ty e h bp (64 - bp) c1 ⟨h, 0, none⟩ bp c2 (List.replicate d (.int .u8 x)) hu hs (by rw [List.length_replicate]; exact hd)
    (fun j v hj => by
      have hjd : j < d := by have := (List.getElem?_eq_some_iff.1 hj).1; simpa using this
      have hv : v = .int .u8 x := by have := (List.getElem?_eq_some_iff.1 hj).2; simpa using this.symm
      subst hv
      rw [show (⟨h, 0, none⟩ : Addr).add j = ⟨h, j, none⟩ by unfold Addr.add; split <;> simp_all]
      exact r.holds j (by omega))
    (fun j hj => by rw [List.length_replicate] at hj; exact r.there _ (by omega)) (fun j hj => by rw [List.length_replicate] at hj; exact r.free _ (by omega))
    (fun v hv => by have := List.eq_of_mem_replicate hv; subst this; rfl)
  rw [List.length_replicate] at hr
  exact hr
theorem step_copyR {P : Program} {ops : Array Oper} {o : Oper} {a : Act} {w : World} {K : Act → World → Prop} {Q : Exit → Act → World → Prop} {E : Prop}
    (hg : o.guard = none) (d x : Operand) (t t' : TypeId) (hop : o.op = Op.call { callee := Callee.builtin Builtin.copy, args := #[d, x], argTypes := #[t, t'] })
    (v u : Value) (hd : a.eval d = v) (hx : a.eval x = u) {v' : Value} {w' : World} (hr : (Builtin.copy_ #[t, t'] o.type #[v, u]).run P w = .ok v' w') (hK : K (a.put o.dst v') w') :
    if Region.wanted o (yielded ops a.tmps) = true then Oper.wp P o a w K Q else E := by
  have hw : Region.wanted o (yielded ops a.tmps) = true := by simp [Region.wanted, hg]
  rw [if_pos hw]
  exact Lib.wp_copy_run w d x t t' hop v u hd hx hr hK
end

theorem mul64_same (w : World) : Calls Tryd.prog 131 #[.int .u64 1, .int .u64 64] w fun e w' => e = .returned (.tuple #[.int .u64 0, .int .u64 64]) ∧ w' = w := by
  go_enter Tryd.func131, Tryd.ntmps131
  go_wp2
  go_ret2
  exact ⟨rfl, rfl⟩

theorem mul_same (w : World) : Calls Tryd.prog 125 #[.int .u64 1, .int .u64 64] w fun e w' => e = .returned (.tuple #[.int .u64 0, .int .u64 64]) ∧ w' = w := by
  go_enter Tryd.func125, Tryd.ntmps125
  go_wp2_with (fail)
  refine (mul64_same _).mono ?_
  rintro e w1 ⟨rfl, rfl⟩
  go_wp2
  go_ret2
  exact ⟨rfl, rfl⟩

set_option maxRecDepth 100000 in
set_option maxHeartbeats 2000000 in
theorem repeat64 (b o c : Nat) (x : Int) (Y : List Int) (hY : Hid (∀ i, i < 64 → Y.getD i 0 = x)) (w : World) (hc : w.cell? ⟨b, o, none⟩ = some (.int .u8 x)) :
    Calls Tryd.prog 104 #[.slice (some ⟨b, o, none⟩) 1 c, .int .i64 64] w fun e w' => e = .returned (.slice (some ⟨w.heap.size, 0, none⟩) 64 64) ∧ BytesIn w' (some ⟨w.heap.size, 0, none⟩) 64 Y ∧ Below w.heap.size w w' := by
  obtain ⟨i0, hi, hz0, hz1, hz2⟩ := info_parts infoByte
  have hs5 : (Tryd.prog.info? 5).map (·.size) = some 1 := by rw [hi]; simp [hz1]
  have hb : b < w.heap.size := World.block_lt_of_cell? w ⟨b, o, none⟩ hc
  obtain ⟨cs, hrunM, hle, _⟩ := Lib.run_makeNoZero (P := Tryd.prog) w #[3] 22 5 Tryd.underlying22 64 (by omega)
  have hcall : (callFunc 126 #[.int .i64 64]).run Tryd.prog w = .ok (.value (.slice (some ⟨w.heap.size, 0, none⟩) 64 cs.size)) ((w.alloc (.cells cs 5)).drewN 2) := by
    rw [run_callFunc_extern Tryd.func126 (by kernel_rfl) (by kernel_rfl) (by kernel_rfl) (e := Extern.BytealgMakeNoZero.makeNoZero #[3] #[22]) (by kernel_rfl)]
    exact congrArg (fun r => Result.andThen r _) hrunM
  clear hrunM
  have i1 : (64 : Int) ≤ (cs.size : Int) := by omega
  have B0 := Lib.Buf.start w cs 5 64 2 hle
  generalize (w.alloc (.cells cs 5)).drewN 2 = wM at hcall B0
  have R0 : Rep w wM w.heap.size 0 x := ⟨B0.below, B0.there, B0.free, fun j hj => absurd hj (by omega)⟩
  have hr1 : ∀ ty, (Builtin.copy_ #[22, 22] ty #[.slice (some ⟨w.heap.size, 0, none⟩) 64 64, .slice (some ⟨b, o, none⟩) 1 c]).run Tryd.prog wM = .ok (.int .i64 1) (wM.setCells w.heap.size 0 (List.replicate 1 (.int .u8 x))) := fun ty =>
    run_copy_cells (P := Tryd.prog) wM 22 22 ty 5 w.heap.size 0 64 64 ⟨b, o, none⟩ 1 c (List.replicate 1 (.int .u8 x)) Tryd.underlying22 hs5 rfl
      (fun j v hj => by
        have hj0 : j = 0 := by have := (List.getElem?_eq_some_iff.1 hj).1; simp at this; omega
        subst hj0
        have hv : Value.int .u8 x = v := by simpa using hj
        subst hv
        have := (B0.below.cell (p := ⟨b, o, none⟩) hb).trans hc
        simpa [Addr.add] using this)
      (fun j hj => by simp at hj; exact R0.there _ (by omega)) (fun j hj => by simp at hj; exact R0.free _ (by omega)) (fun v hv => by have := List.eq_of_mem_replicate hv; subst this; rfl)
  have R1 := R0.put 1 (by omega)
  generalize wM.setCells w.heap.size 0 (List.replicate 1 (Value.int .u8 x)) = w1 at hr1 R1
  clear B0 R0 hc
  go_enter Tryd.func104, Tryd.ntmps104
  go_wp2_with (fail)
  refine (mul_same _).mono ?_
  rintro e wm ⟨rfl, rfl⟩
  go_wp2_with (at_builtin; refine Lib.wpList_copy_run _ rfl _ _ 22 22 rfl _ _ rfl rfl (hr1 _) ?_)
  clear hr1 hcall
  go_loopw [10, 11] (fun v _ wr => ∃ bp : Nat, 1 ≤ bp ∧ bp ≤ 64 ∧ v = .int .i64 bp ∧ Rep wm wr wm.heap.size bp x)
    (fun v _ _ => 64 - (intOf v).toNat)
  case atStart => exact ⟨1, by omega, by omega, rfl, R1⟩
  case round =>
    clear R1
    obtain ⟨bp, h1, h64, rfl, R⟩ := hrel
    by_cases hlt : bp < 64
    · obtain ⟨d, hd⟩ : ∃ d, d = Nat.min bp (64 - bp) := ⟨_, rfl⟩
      have hd1 : 1 ≤ d := by rw [hd]; exact Nat.le_min.2 ⟨h1, by omega⟩
      have hd2 : bp + d ≤ 64 := by have : d ≤ 64 - bp := by rw [hd]; exact Nat.min_le_right _ _
                                   omega
      have hm : min (bp : Int) 64 = (bp : Int) := by omega
      have i2 : (bp : Int) ≤ 64 := by omega
      have i3 : ¬ 64 = bp := by omega
      have i4 : IntKind.i64.wrap ((bp : Int) + (d : Int)) = ((bp + d : Nat) : Int) := by rw [IntKind.wrap_i64]; omega
      have hcp := fun ty => R.drew.copy (P := Tryd.prog) 22 ty 5 Tryd.underlying22 hs5 d hd (64 - bp) 64
      have RP := R.drew.put d hd2
      generalize wr.drew.setCells wm.heap.size bp (List.replicate d (Value.int .u8 x)) = w2 at hcp RP
      clear hd R
      go_wp2_with (fail)
      go_region_law (refine step_copyR (by rfl) (.tmp 70) (.tmp 73) 22 22 (by rfl) (.slice (some ⟨wm.heap.size, bp, none⟩) (64 - bp) (64 - bp)) (.slice (some ⟨wm.heap.size, 0, none⟩) bp 64) (by simp [Act.eval, Act.put]) (by simp [Act.eval, Act.put]) (hcp _) ?_)
      all_goals
        simp only [Act.put, List.getElem_toArray, List.getElem_cons_zero, List.getElem_cons_succ, List.setIfInBounds_toArray, List.set_cons_zero, List.set_cons_succ]
        go_wp2
        go_roundw
        case rel => exact ⟨bp + d, by omega, by omega, by go_num, RP⟩
        case measure => simp [intOf]; omega
    · have hnl : ¬ (bp : Int) < 64 := by omega
      go_wp2
      go_ret
      refine ⟨rfl, fun _ => ⟨_, 0, rfl, fun i hi => ?_⟩, R.below⟩
      rw [Nat.zero_add, R.holds i (by omega), hY.out i hi]

end Go.Proofs.YtdjdanpicbaieaaDoor

namespace Go.Proofs.YtdjdanpicbaieaaDoor
open Go.RowKit
set_option maxRecDepth 100000

/-- The bytes of both, as many as the shorter one has, one or the other, not both. -/
def xorL (xs ys : List Int) : List Int := List.zipWith (fun u v => bits BinOp.xor IntKind.u8 u v) xs ys

theorem xorL_length (xs ys : List Int) : (xorL xs ys).length = min xs.length ys.length := by simp [xorL]

theorem xorL_step {xs ys : List Int} {n m k : Nat} {u v : Int} (hx : xs.length = n) (hy : ys.length = m) (hk : k < n) (hk' : k < m) (hu : u = xs.getD k 0) (hv : v = ys.getD k 0) :
    xorL (xs.take k) (ys.take k) ++ [bits BinOp.xor IntKind.u8 u v] = xorL (xs.take (k + 1)) (ys.take (k + 1)) := by
  subst hu hv
  unfold xorL
  rw [List.take_succ_eq_append_getElem (by omega), List.take_succ_eq_append_getElem (by omega), List.zipWith_append (by simp; omega)]
  simp [List.getElem?_eq_getElem (show k < xs.length by omega), List.getElem?_eq_getElem (show k < ys.length by omega)]

theorem xorL_all {xs ys : List Int} {n m k : Nat} (hx : xs.length = n) (hy : ys.length = m) (h : k = min n m) : xorL (xs.take k) (ys.take k) = xorL xs ys := by
  subst hx hy h
  unfold xorL
  apply List.ext_getElem
  · simp
  · intro i h1 h2; simp

theorem xorL_getD {xs ys : List Int} {n m k : Nat} {u v : Int} (hx : xs.length = n) (hy : ys.length = m) (hk : k < n) (hk' : k < m) (hu : u = xs.getD k 0) (hv : v = ys.getD k 0) :
    bits BinOp.xor IntKind.u8 u v = (xorL xs ys).getD k 0 := by
  subst hu hv hx hy
  simp [xorL, List.getElem?_eq_getElem hk, List.getElem?_eq_getElem hk', List.getElem?_zipWith]

set_option maxHeartbeats 1000000 in
theorem implXor_le (p q : Option Addr) (n m c d : Nat) (xs ys : List Int) (w : World) (hn : n ≤ 1048576) (hm : m ≤ 1048576) (hx : xs.length = n) (hy : ys.length = m) (h : BytesIn w p n xs) (h' : BytesIn w q m ys) (hmin : n ≤ m) :
    Calls Tryd.prog 103 #[.slice p n c, .slice q m d] w fun e w' => ∃ v, e = .returned v ∧ w'.ownsRow w.heap.size 5 1 v n ((xorL xs ys).map (Value.int .u8)) ∧ Below w.heap.size w w' := by
  obtain ⟨i0, hi, hz0, hz1, hz2⟩ := info_parts infoByte
  have hl : (xorL xs ys).length = n := by rw [xorL_length, hx, hy]; omega
  go_enter Tryd.func103, Tryd.ntmps103
  go_wp2_with (at_make; refine wpList_make_full _ rfl _ _ 22 rfl w.heap.size 5 i0 (.int .u8 0) 1 Tryd.underlying22 hi hz0 hz1 _ _ _ _ n rfl rfl rfl rfl ?b2 ?b3 ?b4 ?_)
  case b2 => rw [hz2]; omega
  case b3 => unfold maxLen; omega
  case b4 => exact Nat.le_refl _
  intro w1 hown hgrow
  rw [fill_start (xorL xs ys) n] at hown
  have hbel : Below w.heap.size w w1 := (Below.refl _ _).grown hgrow (Nat.le_refl _) (fun _ h => by cases h)
  clear hgrow
  go_wp2
  go_loopw [15] (fun i wr => ∃ k : Nat, k ≤ n ∧ i = .int .i64 k ∧ wr.ownsRow w.heap.size 5 1 (.slice (some ⟨w.heap.size, 0, none⟩) n n) n (((xorL xs ys).take k ++ List.replicate (n - k) 0).map (Value.int .u8)) ∧ Below w.heap.size w wr)
    (fun i _ => n - (intOf i).toNat)
  case atStart => exact ⟨0, Nat.zero_le _, rfl, hown, hbel⟩
  case round =>
    clear hown hbel
    obtain ⟨k, hk, rfl, hown, hbel⟩ := hrel
    by_cases hlt : k < n
    · have hlx : k < n := by omega
      have hly : k < m := by omega
      obtain ⟨b, o, rfl, hc⟩ := h (by omega)
      obtain ⟨b', o', rfl, hc'⟩ := h' (by omega)
      have hcx : wr.cell? ⟨b, o + k, none⟩ = some (.int .u8 (xs.getD k 0)) := by
        rw [hbel.cell (p := ⟨b, o + k, none⟩) (World.block_lt_of_cell? w ⟨b, o + k, none⟩ (hc k hlx))]
        exact hc k hlx
      have hcy : wr.cell? ⟨b', o' + k, none⟩ = some (.int .u8 (ys.getD k 0)) := by
        rw [hbel.cell (p := ⟨b', o' + k, none⟩) (World.block_lt_of_cell? w ⟨b', o' + k, none⟩ (hc' k hly))]
        exact hc' k hly
      obtain ⟨u, hu⟩ : ∃ u, u = xs.getD k 0 := ⟨_, rfl⟩
      obtain ⟨v, hv⟩ : ∃ v, v = ys.getD k 0 := ⟨_, rfl⟩
      rw [← hu] at hcx
      rw [← hv] at hcy
      have hold : wr.cell? ⟨w.heap.size, k, none⟩ = some (.int .u8 0) := by
        rw [hown.cellAt k (by omega)]; exact fill_old _ n k hlt hl
      have hfz := hown.frozenAt k
      have hst := hown.stored k (.int .u8 (bits BinOp.xor IntKind.u8 u v))
      rw [fill_step (xorL xs ys) n k _ (xorL_getD hx hy hlx hly hu hv) hlt hl] at hst
      have hbel' := hbel.setCell (p := ⟨w.heap.size, k, none⟩) (Nat.le_refl _) (.int .u8 (bits BinOp.xor IntKind.u8 u v))
      clear hc hc' h h' hu hv
      go_wp2
      go_region
      all_goals
        go_wp2
        go_roundw
        case rel => exact ⟨k + 1, by omega, by go_num, hst.1, hbel'.drew⟩
        case measure => simp [intOf]; omega
    · have hkn : k = n := by omega
      subst hkn
      go_wp2
      go_ret
      rw [fill_end _ _ hl] at hown
      exact ⟨_, rfl, hown, hbel⟩

set_option maxHeartbeats 1000000 in
theorem implXor_gt (p q : Option Addr) (n m c d : Nat) (xs ys : List Int) (w : World) (hn : n ≤ 1048576) (hm : m ≤ 1048576) (hx : xs.length = n) (hy : ys.length = m) (h : BytesIn w p n xs) (h' : BytesIn w q m ys) (hmin : m < n) :
    Calls Tryd.prog 103 #[.slice p n c, .slice q m d] w fun e w' => ∃ v, e = .returned v ∧ w'.ownsRow w.heap.size 5 1 v m ((xorL xs ys).map (Value.int .u8)) ∧ Below w.heap.size w w' := by
  obtain ⟨i0, hi, hz0, hz1, hz2⟩ := info_parts infoByte
  have hl : (xorL xs ys).length = m := by rw [xorL_length, hx, hy]; omega
  go_enter Tryd.func103, Tryd.ntmps103
  go_wp2_with (at_make; refine wpList_make_full _ rfl _ _ 22 rfl w.heap.size 5 i0 (.int .u8 0) 1 Tryd.underlying22 hi hz0 hz1 _ _ _ _ m rfl rfl rfl rfl ?b2 ?b3 ?b4 ?_)
  case b2 => rw [hz2]; omega
  case b3 => unfold maxLen; omega
  case b4 => exact Nat.le_refl _
  intro w1 hown hgrow
  rw [fill_start (xorL xs ys) m] at hown
  have hbel : Below w.heap.size w w1 := (Below.refl _ _).grown hgrow (Nat.le_refl _) (fun _ h => by cases h)
  clear hgrow
  go_wp2
  go_loopw [15] (fun i wr => ∃ k : Nat, k ≤ m ∧ i = .int .i64 k ∧ wr.ownsRow w.heap.size 5 1 (.slice (some ⟨w.heap.size, 0, none⟩) m m) m (((xorL xs ys).take k ++ List.replicate (m - k) 0).map (Value.int .u8)) ∧ Below w.heap.size w wr)
    (fun i _ => m - (intOf i).toNat)
  case atStart => exact ⟨0, Nat.zero_le _, rfl, hown, hbel⟩
  case round =>
    clear hown hbel
    obtain ⟨k, hk, rfl, hown, hbel⟩ := hrel
    by_cases hlt : k < m
    · have hlx : k < n := by omega
      have hly : k < m := by omega
      obtain ⟨b, o, rfl, hc⟩ := h (by omega)
      obtain ⟨b', o', rfl, hc'⟩ := h' (by omega)
      have hcx : wr.cell? ⟨b, o + k, none⟩ = some (.int .u8 (xs.getD k 0)) := by
        rw [hbel.cell (p := ⟨b, o + k, none⟩) (World.block_lt_of_cell? w ⟨b, o + k, none⟩ (hc k hlx))]
        exact hc k hlx
      have hcy : wr.cell? ⟨b', o' + k, none⟩ = some (.int .u8 (ys.getD k 0)) := by
        rw [hbel.cell (p := ⟨b', o' + k, none⟩) (World.block_lt_of_cell? w ⟨b', o' + k, none⟩ (hc' k hly))]
        exact hc' k hly
      obtain ⟨u, hu⟩ : ∃ u, u = xs.getD k 0 := ⟨_, rfl⟩
      obtain ⟨v, hv⟩ : ∃ v, v = ys.getD k 0 := ⟨_, rfl⟩
      rw [← hu] at hcx
      rw [← hv] at hcy
      have hold : wr.cell? ⟨w.heap.size, k, none⟩ = some (.int .u8 0) := by
        rw [hown.cellAt k (by omega)]; exact fill_old _ m k hlt hl
      have hfz := hown.frozenAt k
      have hst := hown.stored k (.int .u8 (bits BinOp.xor IntKind.u8 u v))
      rw [fill_step (xorL xs ys) m k _ (xorL_getD hx hy hlx hly hu hv) hlt hl] at hst
      have hbel' := hbel.setCell (p := ⟨w.heap.size, k, none⟩) (Nat.le_refl _) (.int .u8 (bits BinOp.xor IntKind.u8 u v))
      clear hc hc' h h' hu hv
      go_wp2
      go_region
      all_goals
        go_wp2
        go_roundw
        case rel => exact ⟨k + 1, by omega, by go_num, hst.1, hbel'.drew⟩
        case measure => simp [intOf]; omega
    · have hkn : k = m := by omega
      subst hkn
      go_wp2
      go_ret
      rw [fill_end _ _ hl] at hown
      exact ⟨_, rfl, hown, hbel⟩

theorem implXor_any (p q : Option Addr) (n m c d : Nat) (xs ys : List Int) (w : World) (hn : n ≤ 1048576) (hm : m ≤ 1048576) (hx : xs.length = n) (hy : ys.length = m) (h : BytesIn w p n xs) (h' : BytesIn w q m ys) :
    Calls Tryd.prog 103 #[.slice p n c, .slice q m d] w fun e w' => ∃ v, e = .returned v ∧ w'.ownsRow w.heap.size 5 1 v (min n m) ((xorL xs ys).map (Value.int .u8)) ∧ Below w.heap.size w w' := by
  by_cases hle : n ≤ m
  · rw [show min n m = n by omega]
    exact implXor_le p q n m c d xs ys w hn hm hx hy h h' hle
  · rw [show min n m = m by omega]
    exact implXor_gt p q n m c d xs ys w hn hm hx hy h h' (by omega)

theorem implXor_own (p q : Option Addr) (n m c d : Nat) (xs ys : List Int) (w : World) (hn : n ≤ 1048576) (hm : m ≤ 1048576) (hx : xs.length = n) (hy : ys.length = m) (h : BytesIn w p n xs) (h' : BytesIn w q m ys) :
    Calls Tryd.prog 103 #[.slice p n c, .slice q m d] w fun e w' => ∃ p' c', e = .returned (.slice p' (min n m) c') ∧ Own 5 w' w.heap.size w'.heap.size (.slice p' (min n m) c') (min n m) (xorL xs ys) ∧ Below w.heap.size w w' := by
  refine (implXor_any p q n m c d xs ys w hn hm hx hy h h').mono fun e w' ⟨v, h1, h2, h3⟩ => ?_
  obtain ⟨p', c', rfl⟩ := owns_form h2
  exact ⟨p', c', h1, .of h2, h3⟩

end Go.Proofs.YtdjdanpicbaieaaDoor
