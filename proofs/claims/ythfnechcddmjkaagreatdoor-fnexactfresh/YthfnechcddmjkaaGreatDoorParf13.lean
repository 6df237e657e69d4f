/-
  What the specification's and the program's HashPad answer, whatever bytes they are given: the bytes, 128, noughts, and eight bytes that tell how many bits there are; nothing of more than 4000. No condition but a length that is an int's.
-/
import Derived.Test.YthfnechcddmjkaaGreatDoorParf02
import Derived.Test.YthfnechcddmjkaaGreatDoorParf12
import Derived.Deep.RegionHeld3
namespace Go.Proofs.YthfnechcddmjkaaGreatDoor
open Go.RowKit
set_option maxRecDepth 100000

def zerosN (n : Nat) : Nat := (64 - (n + 9) % 64) % 64
theorem zerosN_lt (n : Nat) : zerosN n < 64 := by unfold zerosN; omega
def lenL (n : Nat) : List Int := (littleL (8 * (n : Int)) 8).reverse
theorem lenL_length (n : Nat) : (lenL n).length = 8 := by simp [lenL, littleL_length]
def padN (n : Nat) : Nat := if n ≤ 4000 then n + 1 + zerosN n + 8 else 0
def padL (xs : List Int) : List Int := if xs.length ≤ 4000 then xs ++ [128] ++ List.replicate (zerosN xs.length) 0 ++ lenL xs.length else []

theorem fit8 {n : Nat} (h : n ≤ 4000) : fitN (8 * (n : Int)) 8 = 8 ∧ fitL (8 * (n : Int)) 8 = littleL (8 * (n : Int)) 8 := by
  have h : fitN (8 * (n : Int)) 8 = 8 := fit_yes ⟨by omega, by omega, by omega⟩
  exact ⟨h, by unfold fitL; rw [h]⟩
theorem implGreat8 (n : Nat) (w : World) (hn : n ≤ 4000) :
    Calls Tryz.prog 48 #[.int .i64 (8 * (n : Int)), .int .i64 8] w fun e w' => ∃ p c, e = .returned (.slice p 8 c) ∧ Own 5 w' w.heap.size w'.heap.size (.slice p 8 c) 8 (lenL n) ∧ Below w.heap.size w w' := by
  have h := implGreat_any (8 * (n : Int)) 8 w (by omega)
  rw [(fit8 hn).1, (fit8 hn).2] at h
  exact h
theorem specGreat8 (n : Nat) (w : World) (hn : n ≤ 4000) :
    Calls Tryz.prog 42 #[.int .i64 (8 * (n : Int)), .int .i64 8] w fun e w' => ∃ p c, e = .returned (.slice p 8 c) ∧ Own 5 w' w.heap.size w'.heap.size (.slice p 8 c) 8 (lenL n) ∧ Below w.heap.size w w' := by
  have h := specGreat_any (8 * (n : Int)) 8 w (by omega)
  rw [(fit8 hn).1, (fit8 hn).2] at h
  exact h

theorem padConcat (p pg : Option Addr) (n c B1 B2 z cg : Nat) (xs ys : List Int) (w w0 : World) (hx : xs.length = n) (hy : ys.length = 8) (hn : n ≤ 4000) (hz : z < 64) (hw : Below w.heap.size w w0)
    (i0 : BytesIn w0 p n xs) (i1 : BytesIn w0 (some ⟨B1, 0, none⟩) 1 [128]) (i2 : BytesIn w0 (some ⟨B2, 0, none⟩) z (List.replicate z 0)) (i3 : BytesIn w0 pg 8 ys) (gr : Nat) (hgr : w0.heap.size = gr) :
    Calls Tryz.prog 47 #[.slice (some ⟨gr, 0, none⟩) 4 4] (w0.alloc (.cells #[.slice p n c, .slice (some ⟨B1, 0, none⟩) 1 1, .slice (some ⟨B2, 0, none⟩) z z, .slice pg 8 cg] 22)) fun e w' =>
      ∃ p' c', e = .returned (.slice p' (n + 1 + z + 8) c') ∧ Own 5 w' w.heap.size w'.heap.size (.slice p' (n + 1 + z + 8) c') (n + 1 + z + 8) (xs ++ [128] ++ List.replicate z 0 ++ ys) ∧ Below w.heap.size w w' := by
  subst hgr
  have ba : Below w0.heap.size w0 (w0.alloc (.cells #[.slice p n c, .slice (some ⟨B1, 0, none⟩) 1 1, .slice (some ⟨B2, 0, none⟩) z z, .slice pg 8 cg] 22)) := (Below.refl _ _).alloc (Nat.le_refl _) _
  have hs : sumN (fun k => match k with | 0 => n | 1 => 1 | 2 => z | _ => 8) 4 = n + 1 + z + 8 := by simp [sumN]
  have hc : catL (fun k => match k with | 0 => xs | 1 => [128] | 2 => List.replicate z 0 | _ => ys) 4 = xs ++ [128] ++ List.replicate z 0 ++ ys := by simp [catL]
  have h := concat_any w0.heap.size 4 (fun k => match k with | 0 => p | 1 => some ⟨B1, 0, none⟩ | 2 => some ⟨B2, 0, none⟩ | _ => pg) (fun k => match k with | 0 => n | 1 => 1 | 2 => z | _ => 8) (fun k => match k with | 0 => c | 1 => 1 | 2 => z | _ => cg) (fun k => match k with | 0 => xs | 1 => [128] | 2 => List.replicate z 0 | _ => ys)
    (w0.alloc (.cells #[.slice p n c, .slice (some ⟨B1, 0, none⟩) 1 1, .slice (some ⟨B2, 0, none⟩) z z, .slice pg 8 cg] 22)) (by decide)
    (fun k hk => by
      rw [cell_of_row _ _ k _ _ _ (heap_alloc_new w0 _)]
      match k, hk with
      | 0, _ => rfl
      | 1, _ => rfl
      | 2, _ => rfl
      | 3, _ => rfl)
    (fun k hk => by
      match k, hk with
      | 0, _ => exact hx
      | 1, _ => rfl
      | 2, _ => exact List.length_replicate
      | 3, _ => exact hy)
    (fun k hk => by
      match k, hk with
      | 0, _ => exact in_below i0 ba
      | 1, _ => exact in_below i1 ba
      | 2, _ => exact in_below i2 ba
      | 3, _ => exact in_below i3 ba)
    (by rw [hs]; omega) (by rw [hs]; omega)
  rw [hs, hc] at h
  refine h.mono ?_
  rintro e w' ⟨p', c', rfl, r, b⟩
  have hs0 := hw.size
  exact ⟨p', c', rfl, ⟨owns_mono r.1 (by simp; omega), r.2⟩, below_on (below_on hw ba) b⟩

theorem in_128 (w : World) (ty : Nat) : BytesIn (w.alloc (.cells #[.int .u8 128] ty)) (some ⟨w.heap.size, 0, none⟩) 1 [128] := by
  intro _
  refine ⟨w.heap.size, 0, rfl, fun i hi => ?_⟩
  obtain rfl : i = 0 := by omega
  exact cell_of_row _ _ _ _ _ _ (heap_alloc_new w _)
theorem in_zeros (w : World) (ty z : Nat) : BytesIn (w.alloc (.cells (madeCells #[.int .u8 0] z) ty)) (some ⟨w.heap.size, 0, none⟩) z (List.replicate z 0) := by
  intro _
  refine ⟨w.heap.size, 0, rfl, fun i hi => ?_⟩
  rw [cell_of_row _ _ _ _ _ _ (heap_alloc_new w _)]
  have := toList_madeCells_one (.int .u8 0) z
  rw [← Array.getElem?_toList, this]
  simp [hi]
theorem in_128' (w : World) (ty B : Nat) (h : w.heap.size = B) : BytesIn (w.alloc (.cells #[.int .u8 128] ty)) (some ⟨B, 0, none⟩) 1 [128] := by
  subst h
  exact in_128 w ty
theorem in_zeros' (w : World) (ty z B : Nat) (h : w.heap.size = B) : BytesIn (w.alloc (.cells (madeCells #[.int .u8 0] z) ty)) (some ⟨B, 0, none⟩) z (List.replicate z 0) := by
  subst h
  exact in_zeros w ty z
theorem in_alloc {w : World} {p : Option Addr} {n : Nat} {xs : List Int} (h : BytesIn w p n xs) (o : Obj) : BytesIn (w.alloc o) p n xs := in_below h ((Below.refl _ _).alloc (Nat.le_refl _) _)
theorem below_alloc' {a w : World} (h : Below a.heap.size a w) (o : Obj) : Below a.heap.size a (w.alloc o) := h.alloc h.size o
theorem below_drew' {a w : World} (h : Below a.heap.size a w) : Below a.heap.size a w.drew := h.drew
theorem in_drew {w : World} {p : Option Addr} {n : Nat} {xs : List Int} (h : BytesIn w p n xs) : BytesIn w.drew p n xs := in_below h (Below.refl _ _).drew

theorem implPad_no (p : Option Addr) (n c : Nat) (w : World) (h : ¬ n ≤ 4000) :
    Calls Tryz.prog 173 #[.slice p n c] w fun e w' => e = .returned (.slice none 0 0) ∧ w' = w := by
  have c1 : (4000 : Int) < (n : Int) := by omega
  go_enter Tryz.func173, Tryz.ntmps173
  go_wp2
  go_ret
  exact ⟨rfl, rfl⟩

set_option maxHeartbeats 4000000 in
theorem specPad_any (p : Option Addr) (n c : Nat) (xs : List Int) (w : World) (hn0 : n ≤ 9223372036854775807) (hx : xs.length = n) (h : BytesIn w p n xs) :
    Calls Tryz.prog 169 #[.slice p n c] w fun e w' => ∃ p' c', e = .returned (.slice p' (padN n) c') ∧ Own 5 w' w.heap.size w'.heap.size (.slice p' (padN n) c') (padN n) (padL xs) ∧ Below w.heap.size w w' := by
  obtain ⟨i0, hi, hz0, hz1, hz2⟩ := info_parts infoByte
  unfold padN padL
  rw [hx]
  by_cases hn : n ≤ 4000
  · rw [if_pos hn, if_pos hn]
    have hzl := zerosN_lt n
    have HZ : Hid (zerosN n = (64 - (n + 9) % 64) % 64) := rfl
    have C := fun w => specGreat8 n w hn
    have hll := lenL_length n
    generalize zerosN n = Z at hzl HZ ⊢
    generalize lenL n = T at C hll ⊢
    go_enter Tryz.func169, Tryz.ntmps169
    have hown0 : (w.alloc (.cells #[] 5)).ownsRow w.heap.size 5 1 (.slice (some ⟨w.heap.size, 0, none⟩) 0 0) 0 (([] : List Int).map (Value.int .u8)) := World.ownsRow_made w #[] 0 (Nat.le_refl _) (by unfold maxLen; omega) rfl
    have hb0 : Below w.heap.size w (w.alloc (.cells #[] 5)) := (Below.refl _ _).alloc (Nat.le_refl _) _
    have h1 := in_below h hb0
    have hlen : xs.length = n := hx
    clear hx h
    go_wp2_with (first | (at_builtin; refine list_spreadA hi hz0 hz1 hz2 (.tmp 8) (.tmp 9) 22 Tryz.underlying22 hown0 h1 hlen (by omega) (by omega) (by simp) (by rfl) (by rfl) (by rfl) (by rfl) ?_; intro p1 cap1 w1 ho1 hb1; simp only [Nat.zero_add, List.nil_append] at ho1 ⊢; have hs1 : w.heap.size ≤ w1.heap.size := (hb0.trans hb1).size) | (at_builtin; refine list_push hi hz0 hz1 hz2 (.tmp 10) (.tmp 11) 22 Tryz.underlying22 _ ho1 (by omega) hs1 (by rfl) (by rfl) (by rfl) (by rfl) ?_; intro g2 cap2 w2 ho2 hb2))
    have bel2 : Below w.heap.size w w2 := (hb0.trans hb1).trans hb2
    clear hown0 hb0 h1 ho1 hb1 hb2 hs1
    go_loopw [3] (fun v wr => ∃ k m : Nat, k ≤ Z ∧ Hid (m = n + 1 + k) ∧ wr.ownsRow w.heap.size 5 1 v m ((xs ++ [128] ++ List.replicate k 0).map (Value.int .u8)) ∧ Below w.heap.size w wr)
      (fun v _ => match v with | .slice _ m _ => n + 1 + Z - m | _ => 0)
    case atStart => exact ⟨0, n + 1, by omega, rfl, by simpa using ho2, bel2⟩
    case round =>
      clear ho2 bel2
      obtain ⟨k, m, hk, hm, hown, hbel⟩ := hrel
      have hsz := hbel.size
      obtain ⟨q, cq, hv⟩ := owns_form hown
      subst hv
      have hmb : m ≤ 5000 := by have := hm.out; omega
      by_cases hlt : k < Z
      · have d1 : ((m : Int) % 64 != 56) = true := by
          have := hm.out
          have := HZ.out
          have : (m : Int) % 64 ≠ 56 := by omega
          simpa using this
        have HX : Hid (xs ++ [128] ++ List.replicate k 0 ++ [0] = xs ++ [128] ++ List.replicate (k + 1) 0) := by
          rw [Hid, List.append_assoc _ _ [0], ← List.replicate_succ']
        go_wp2_with (at_builtin; refine list_push hi hz0 hz1 hz2 (.tmp 17) (.tmp 18) 22 Tryz.underlying22 _ hown (by omega) hsz (by rfl) (by rfl) (by rfl) (by rfl) ?_; intro g3 cap3 w3 ho3 hb3; rw [HX.out] at ho3)
        go_roundw
        case rel => exact ⟨k + 1, m + 1, by omega, by have := hm.out; rw [Hid]; omega, ho3, hbel.trans hb3⟩
        case measure => have := hm.out; show n + 1 + Z - (m + 1) < n + 1 + Z - m; omega
      · obtain rfl : k = Z := by omega
        have d1 : ((m : Int) % 64 != 56) = false := by
          have := hm.out
          have := HZ.out
          have : (m : Int) % 64 = 56 := by omega
          simp [this]
        go_wp2_with (fail)
        refine (C _).mono ?_
        rintro e w3 ⟨p3, c3, rfl, r3, b3⟩
        replace hown := owns_below hown b3
        replace hbel := below_on hbel b3
        have hin := r3.bytes
        have hsz3 := hbel.size
        clear r3 b3 C
        go_wp2_with (at_builtin; refine list_spreadA hi hz0 hz1 hz2 (.tmp 20) (.tmp 24) 22 Tryz.underlying22 hown hin hll (by omega) (by omega) hsz3 (by rfl) (by rfl) (by rfl) (by rfl) ?_; intro p4 cap4 w4 ho4 hb4)
        go_ret
        rw [hm.out] at ho4 ⊢
        exact ⟨_, _, rfl, .of ho4, hbel.trans hb4⟩
  · rw [if_neg hn, if_neg hn]
    have c1 : (4000 : Int) < (n : Int) := by omega
    clear h hx
    go_enter Tryz.func169, Tryz.ntmps169
    go_wp2
    go_ret
    exact ⟨_, _, rfl, .of (World.ownsRow_made w #[] 0 (Nat.le_refl _) (by unfold maxLen; omega) rfl), (Below.refl _ _).alloc (Nat.le_refl _) _⟩

set_option maxHeartbeats 4000000 in
theorem implPad_yes (p : Option Addr) (n c : Nat) (xs : List Int) (w : World) (hx : xs.length = n) (h : BytesIn w p n xs) (hn : n ≤ 4000) :
    Calls Tryz.prog 173 #[.slice p n c] w fun e w' => ∃ p' c', e = .returned (.slice p' (n + 1 + zerosN n + 8) c') ∧ Own 5 w' w.heap.size w'.heap.size (.slice p' (n + 1 + zerosN n + 8) c') (n + 1 + zerosN n + 8) (xs ++ [128] ++ List.replicate (zerosN n) 0 ++ lenL n) ∧ Below w.heap.size w w' := by
  obtain ⟨i0, hi, hz0, hz1, hz2⟩ := info_parts infoByte
  have hzl := zerosN_lt n
  obtain ⟨ov, hov⟩ : ∃ ov : Nat, ov = (n + 9) % 64 := ⟨_, rfl⟩
  have hZ : zerosN n = (64 - ov) % 64 := by rw [hov]; rfl
  have C := fun w => implGreat8 n w hn
  have hll := lenL_length n
  generalize zerosN n = Z at hzl hZ ⊢
  generalize lenL n = T at C hll ⊢
  have r1 : ((n : Int) + 1 + 8).tmod 64 = (ov : Int) := by rw [Int.tmod_eq_emod_of_nonneg (by omega)]; omega
  have r1' : ((n : Int) + 1 + 8) % 64 = (ov : Int) := by omega
  have r2 : (64 - (ov : Int)).tmod 64 = (Z : Int) := by rw [Int.tmod_eq_emod_of_nonneg (by omega)]; omega
  have r2' : (64 - (ov : Int)) % 64 = (Z : Int) := by omega
  have hov2 : ov < 64 := by omega
  clear hov hZ
  have hmk : ∀ W : World, (Instr.makeSlice 22 (.int .i64 (Z : Int)) (.int .i64 (Z : Int))).run Tryz.prog W = .ok (.slice (some ⟨W.heap.size, 0, none⟩) Z Z) (W.alloc (.cells (madeCells #[.int .u8 0] Z) 5)) := by
    intro W
    have := run_makeSlice (P := Tryz.prog) W 22 5 i0 (.int .u8 0) Tryz.underlying22 hi hz0 .i64 .i64 Z Z (by omega) (by omega) (by rw [hz1]; simp; omega) (by rw [hz2]; omega) (by omega)
    simpa [hz1, Value.cells] using this
  have q8 : IntKind.i64.wrap (8 * (n : Int)) = 8 * (n : Int) := by rw [IntKind.wrap_i64]; omega
  clear hi hz0 hz1 hz2
  go_enter Tryz.func173, Tryz.ntmps173
  go_wp2_with (fail)
  go_region_held3 (fun _ => True) (trivial) (first | (go_at_call 48; refine (C _).mono ?_; rintro e wg ⟨pg, cg, rfl, rg, bg⟩) | (go_at_call 47; refine (padConcat _ _ n _ _ _ Z _ xs T w _ hx hll hn hzl (by repeat (with_reducible (first | exact Below.refl _ _ | refine below_alloc' ?_ _ | refine below_drew' ?_ | refine below_on ?_ bg))) (by repeat (with_reducible (first | exact rg.bytes | exact in_128' _ _ _ (by simp) | exact in_zeros' _ _ _ _ (by simp) | exact h | refine in_alloc ?_ _ | refine in_drew ?_ | refine in_below ?_ bg))) (by repeat (with_reducible (first | exact rg.bytes | exact in_128' _ _ _ (by simp) | exact in_zeros' _ _ _ _ (by simp) | exact h | refine in_alloc ?_ _ | refine in_drew ?_ | refine in_below ?_ bg))) (by repeat (with_reducible (first | exact rg.bytes | exact in_128' _ _ _ (by simp) | exact in_zeros' _ _ _ _ (by simp) | exact h | refine in_alloc ?_ _ | refine in_drew ?_ | refine in_below ?_ bg))) (by repeat (with_reducible (first | exact rg.bytes | exact in_128' _ _ _ (by simp) | exact in_zeros' _ _ _ _ (by simp) | exact h | refine in_alloc ?_ _ | refine in_drew ?_ | refine in_below ?_ bg))) _ (by simp)).mono ?_; rintro e wk ⟨pk, ck, rfl, rk, bk⟩))
  all_goals
    go_wp2
    go_ret
    exact ⟨_, _, rfl, rk, bk⟩

theorem implPad_any (p : Option Addr) (n c : Nat) (xs : List Int) (w : World) (_hn0 : n ≤ 9223372036854775807) (hx : xs.length = n) (h : BytesIn w p n xs) :
    Calls Tryz.prog 173 #[.slice p n c] w fun e w' => ∃ p' c', e = .returned (.slice p' (padN n) c') ∧ Own 5 w' w.heap.size w'.heap.size (.slice p' (padN n) c') (padN n) (padL xs) ∧ Below w.heap.size w w' := by
  unfold padN padL
  rw [hx]
  by_cases hn : n ≤ 4000
  · rw [if_pos hn, if_pos hn]
    exact implPad_yes p n c xs w hx h hn
  · rw [if_neg hn, if_neg hn]
    refine (implPad_no p n c w hn).mono ?_
    rintro e w1 ⟨rfl, rfl⟩
    exact ⟨_, _, rfl, .of (World.ownsRow_nil _ _ _ _), Below.refl _ _⟩

end Go.Proofs.YthfnechcddmjkaaGreatDoor
