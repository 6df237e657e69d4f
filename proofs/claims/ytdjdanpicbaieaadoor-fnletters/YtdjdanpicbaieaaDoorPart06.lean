/-
  What the program tells of a letter: what goes with its seal, and its bytes. Conditions: bytes that lie there.
  What LetterBytes of both sides answers at any letter. Conditions: bytes that lie there.
  What the other draws of chapter 11's laws answer: drawn letters, their bytes, bent or cut, and keys; whether two letters are the same.
  What the draw of a letter's bytes answers, bent or cut; whether two letters are the same.
  A letter's bytes read again are the letter, and the other way round. Conditions: a letter that is right; bytes all.
-/
import Derived.Test.YtdjdanpicbaieaaDoorPart03
import Derived.Test.YtdjdanpicbaieaaDoorPart04
import Derived.Deep.RegionHeld3
import Derived.Test.YtdjdanpicbaieaaDoorPart02
import Derived.Test.YtdjdanpicbaieaaDoorPart05
namespace Go.Proofs.YtdjdanpicbaieaaDoor
open Go.RowKit
set_option maxRecDepth 100000

/-- What goes with a seal. -/
def headN (e : Int) (n : Nat) : Nat := 1 + fitN e 2 + n
def headL (e : Int) (xs : List Int) : List Int := [1] ++ (fitL e 2).reverse ++ xs
/-- A letter's bytes. -/
def lbN (e : Int) (n m : Nat) : Nat := if letOk e n m then 35 + m else 0
def lbL (e : Int) (xs ys : List Int) : List Int := if letOk e xs.length ys.length then headL e xs ++ ys else []
theorem fitN_two {e : Int} (h : 0 ≤ e) : fitN e 2 = 2 := by simp [fitN, fitB, h]
theorem fitL_length (e : Int) : (fitL e 2).length = fitN e 2 := littleL_length _ _
theorem headL_length (e : Int) (xs : List Int) : (headL e xs).length = headN e xs.length := by
  rw [headL, headN, List.length_append, List.length_append, List.length_reverse, fitL_length]
  rfl
theorem headN_ok {e : Int} {n m : Nat} (h : letOk e n m) : headN e n = 35 := by rw [headN, fitN_two h.1, h.2.2.1]
theorem lbN_le (e : Int) (n m : Nat) : lbN e n m ≤ 1551 := by
  rw [lbN]
  split
  · rename_i h
    have := h.2.2.2.2
    omega
  · omega
theorem lbL_length (e : Int) (xs ys : List Int) : (lbL e xs ys).length = lbN e xs.length ys.length := by
  rw [lbL, lbN]
  split
  · rename_i h
    rw [List.length_append, headL_length, headN_ok h]
  · rfl

theorem in_one' (w : World) (ty B : Nat) (h : w.heap.size = B) : BytesIn (w.alloc (.cells #[.int .u8 1] ty)) (some ⟨B, 0, none⟩) 1 [1] := by
  subst h
  intro _
  refine ⟨w.heap.size, 0, rfl, fun i hi => ?_⟩
  obtain rfl : i = 0 := by omega
  rw [cell_of_row _ _ _ _ _ _ (heap_alloc_new w _)]
  rfl
theorem in_allocL {w : World} {p : Option Addr} {n : Nat} {xs : List Int} (h : BytesIn w p n xs) (o : Obj) : BytesIn (w.alloc o) p n xs := in_below h ((Below.refl _ _).alloc (Nat.le_refl _) _)
theorem below_allocL {a w : World} (h : Below a.heap.size a w) (o : Obj) : Below a.heap.size a (w.alloc o) := h.alloc h.size o
theorem below_drewL {a w : World} (h : Below a.heap.size a w) : Below a.heap.size a w.drew := h.drew
theorem in_drewL {w : World} {p : Option Addr} {n : Nat} {xs : List Int} (h : BytesIn w p n xs) : BytesIn w.drew p n xs := in_below h (Below.refl _ _).drew

theorem concat3 (p0 p1 p2 : Option Addr) (n0 n1 n2 c0 c1 c2 : Nat) (xs0 xs1 xs2 : List Int) (w w0 : World) (hx0 : xs0.length = n0) (hx1 : xs1.length = n1) (hx2 : xs2.length = n2) (h0 : 0 < n0 + n1 + n2) (hs1 : n0 + n1 + n2 ≤ 1073741824) (hw : Below w.heap.size w w0)
    (i0 : BytesIn w0 p0 n0 xs0) (i1 : BytesIn w0 p1 n1 xs1) (i2 : BytesIn w0 p2 n2 xs2) (gr : Nat) (hgr : w0.heap.size = gr) :
    Calls Tryd.prog 47 #[.slice (some ⟨gr, 0, none⟩) 3 3] (w0.alloc (.cells #[.slice p0 n0 c0, .slice p1 n1 c1, .slice p2 n2 c2] 22)) fun e w' =>
      ∃ p' c', e = .returned (.slice p' (n0 + n1 + n2) c') ∧ Own 5 w' w.heap.size w'.heap.size (.slice p' (n0 + n1 + n2) c') (n0 + n1 + n2) (xs0 ++ xs1 ++ xs2) ∧ Below w.heap.size w w' := by
  subst hgr
  have ba : Below w0.heap.size w0 (w0.alloc (.cells #[.slice p0 n0 c0, .slice p1 n1 c1, .slice p2 n2 c2] 22)) := (Below.refl _ _).alloc (Nat.le_refl _) _
  have hs : sumN (fun k => match k with | 0 => n0 | 1 => n1 | _ => n2) 3 = n0 + n1 + n2 := by simp [sumN]
  have hc : catL (fun k => match k with | 0 => xs0 | 1 => xs1 | _ => xs2) 3 = xs0 ++ xs1 ++ xs2 := by simp [catL]
  have h := concat_any w0.heap.size 3 (fun k => match k with | 0 => p0 | 1 => p1 | _ => p2) (fun k => match k with | 0 => n0 | 1 => n1 | _ => n2) (fun k => match k with | 0 => c0 | 1 => c1 | _ => c2) (fun k => match k with | 0 => xs0 | 1 => xs1 | _ => xs2)
    (w0.alloc (.cells #[.slice p0 n0 c0, .slice p1 n1 c1, .slice p2 n2 c2] 22)) (by decide)
    (fun k hk => by
      rw [cell_of_row _ _ k _ _ _ (heap_alloc_new w0 _)]
      match k, hk with
      | 0, _ => rfl
      | 1, _ => rfl
      | 2, _ => rfl)
    (fun k hk => by
      match k, hk with
      | 0, _ => exact hx0
      | 1, _ => exact hx1
      | 2, _ => exact hx2)
    (fun k hk => by
      match k, hk with
      | 0, _ => exact in_below i0 ba
      | 1, _ => exact in_below i1 ba
      | 2, _ => exact in_below i2 ba)
    (by rw [hs]; omega) (by rw [hs]; omega)
  rw [hs, hc] at h
  refine h.mono ?_
  rintro e w' ⟨p', c', rfl, r, b⟩
  have hsz := hw.size
  exact ⟨p', c', rfl, ⟨owns_mono r.1 (by simp; omega), r.2⟩, below_on (below_on hw ba) b⟩

set_option maxHeartbeats 4000000 in
theorem letterHead_any (e : Int) (p q : Option Addr) (n c m d : Nat) (xs : List Int) (w : World) (he : e ≤ 9223372036854775807) (hn : n ≤ 1048576) (hx : xs.length = n) (h : BytesIn w p n xs) :
    Calls Tryd.prog 41 #[.agg #[.int .i64 e, .slice p n c, .slice q m d]] w fun z w' => ∃ p' c', z = .returned (.slice p' (headN e n) c') ∧ Own 5 w' w.heap.size w'.heap.size (.slice p' (headN e n) c') (headN e n) (headL e xs) ∧ Below w.heap.size w w' := by
  unfold headN headL
  have hF := fitN_le e 2
  have hFl : ((fitL e 2).reverse).length = fitN e 2 := by rw [List.length_reverse, fitL_length]
  have C := fun w => implGreat_any e 2 w he
  generalize (fitL e 2).reverse = FL at C hFl ⊢
  generalize fitN e 2 = F at C hFl hF ⊢
  obtain ⟨W, hW⟩ : ∃ W, W = w.alloc (.cells #[.int .i64 e, .slice p n c, .slice q m d] 31) := ⟨_, rfl⟩
  have kA : Below w.heap.size w W := by rw [hW]; exact made_below _ _ (Below.refl _ _)
  have CA : Cells W w.heap.size #[.int .i64 e, .slice p n c, .slice q m d] := by rw [hW]; exact Cells.made _ _ _
  have HK : ∀ X, Below W.heap.size W X → X.cell? ⟨w.heap.size, 0, none⟩ = some (.int .i64 e) ∧ X.cell? ⟨w.heap.size, 1, none⟩ = some (.slice p n c) := fun X hX => ⟨((CA.on hX).2 0).1, ((CA.on hX).2 1).1⟩
  have hh := in_below h kA
  have kB := fun (X : World) (hX : Below W.heap.size W X) => below_on kA hX
  replace hW : Hid (w.alloc (.cells #[.int .i64 e, .slice p n c, .slice q m d] 31) = W) := hW.symm
  clear CA
  obtain ⟨TL, hTL⟩ : ∃ TL, TL = [1] ++ FL ++ xs := ⟨_, rfl⟩
  obtain ⟨TN, hTN⟩ : ∃ TN, TN = 1 + F + n := ⟨_, rfl⟩
  rw [← hTL, ← hTN]
  have CC := fun (p0 p1 : Option Addr) (c0 c1 : Nat) (w0 : World) (hw : Below W.heap.size W w0) (i0 : BytesIn w0 p0 1 [1]) (i1 : BytesIn w0 p1 F FL) (i2 : BytesIn w0 p n xs) (gr : Nat) (hgr : w0.heap.size = gr) => concat3 p0 p1 p 1 F n c0 c1 c [1] FL xs W w0 rfl hFl hx (by omega) (by omega) hw i0 i1 i2 gr hgr
  rw [← hTL, ← hTN] at CC
  clear hTL hTN
  go_enter Tryd.func41, Tryd.ntmps41
  go_wp2_with (rw [hW.out])
  go_region_held3 (fun w' => w'.cell? ⟨w.heap.size, 0, none⟩ = some (.int .i64 e) ∧ w'.cell? ⟨w.heap.size, 1, none⟩ = some (.slice p n c)) (exact HK _ (by repeat (with_reducible (first | exact Below.refl _ _ | exact bk | refine below_allocL ?_ _ | refine below_drewL ?_ | refine below_on ?_ bg)))) (first | (go_at_call 60; refine (C _).mono ?_; rintro z wg ⟨pg, cg, rfl, rg, bg⟩) | (go_at_call 47; refine (CC _ _ _ _ _ (by repeat (with_reducible (first | exact Below.refl _ _ | refine below_allocL ?_ _ | refine below_drewL ?_ | refine below_on ?_ bg))) (by repeat (with_reducible (first | exact rg.bytes | exact in_one' _ _ _ (by simp) | exact hh | refine in_allocL ?_ _ | refine in_drewL ?_ | refine in_below ?_ bg))) (by repeat (with_reducible (first | exact rg.bytes | exact in_one' _ _ _ (by simp) | exact hh | refine in_allocL ?_ _ | refine in_drewL ?_ | refine in_below ?_ bg))) (by repeat (with_reducible (first | exact rg.bytes | exact in_one' _ _ _ (by simp) | exact hh | refine in_allocL ?_ _ | refine in_drewL ?_ | refine in_below ?_ bg))) _ (by simp)).mono ?_; rintro z wk ⟨pk, ck, rfl, rk, bk⟩))
  all_goals
    go_wp2
    go_ret
    exact ⟨_, _, rfl, ⟨owns_mono rk.1 kA.size, rk.2⟩, kB _ bk⟩

end Go.Proofs.YtdjdanpicbaieaaDoor

namespace Go.Proofs.YtdjdanpicbaieaaDoor
open Go.RowKit
set_option maxRecDepth 100000

theorem slice_35 (b j m cc : Nat) (h : 35 < m) (hc : m ≤ cc) : ∀ W, (Instr.slice 22 (.slice (some ⟨b, j, none⟩) m cc) (some (.int .i64 35)) none none).run Tryd.prog W = .ok (.slice (some ⟨b, j + 35, none⟩) (m - 35) (cc - 35)) W := fun W => by
  have ht' : Tryd.prog.underlying 22 = some (.slice (Tryd.prog.elem 22)) := by simp [Program.elem, Tryd.underlying22]
  have he : Tryd.prog.elem 22 = 5 := by simp [Program.elem, Tryd.underlying22]
  obtain ⟨i0, hi, hz0, hz1, hz2⟩ := info_parts infoByte
  have := run_slice_l W 22 (some ⟨b, j, none⟩) m cc ht' .i64 35 (by omega) (by omega)
  refine this.trans ?_
  rw [he]
  have e : ¬ cc = 35 := by omega
  simp [sizeOf, typeInfo, hi, hz1, sliced, Addr.add, e]

set_option maxHeartbeats 4000000 in
theorem implLetterBytes_yes (e : Int) (p q : Option Addr) (n c m d : Nat) (xs ys : List Int) (w : World) (hok : letOk e n m) (hx : xs.length = n) (hy : ys.length = m) (h : BytesIn w p n xs) (h' : BytesIn w q m ys) :
    Calls Tryd.prog 16 #[.agg #[.int .i64 e, .slice p n c, .slice q m d]] w fun z w' => ∃ p' c', z = .returned (.slice p' (35 + m) c') ∧ Own 5 w' w.heap.size w'.heap.size (.slice p' (35 + m) c') (35 + m) (headL e xs ++ ys) ∧ Below w.heap.size w w' := by
  obtain ⟨i0, hi, hz0, hz1, hz2⟩ := info_parts infoByte
  have hs5 : (Tryd.prog.info? 5).map (·.size) = some 1 := by rw [hi]; simp [hz1]
  have hH : headN e n = 35 := headN_ok hok
  have hm1 : 16 ≤ m := hok.2.2.2.1
  have hm2 : m ≤ 1516 := hok.2.2.2.2
  have he : e ≤ 9223372036854775807 := by have := hok.2.1; omega
  have hn : n ≤ 1048576 := by have := hok.2.2.1; omega
  have CO := fun X => implLetterOk_any e p q n c m d X (by omega)
  rw [decide_eq_true hok] at CO
  have CH := fun X (hX : BytesIn X p n xs) => letterHead_any e p q n c m d xs X he hn hx hX
  rw [hH] at CH
  have hHl : (headL e xs).length = 35 := by rw [headL_length, hx, hH]
  clear hok hH
  generalize headL e xs = HL at CH hHl ⊢
  obtain ⟨S, hS⟩ : ∃ S : Nat, S = 35 + m := ⟨_, rfl⟩
  have hSi : (35 : Int) + (m : Int) = (S : Int) := by omega
  rw [← hS]
  have hmk := fun W => makeM S (by omega) W
  rw [madeM] at hmk
  obtain ⟨Z, hZ⟩ : ∃ Z, Z = noughtV S := ⟨_, rfl⟩
  have hZl : Z.length = S := by rw [hZ, noughtV_length]
  rw [← hZ] at hmk
  obtain ⟨V, hV⟩ : ∃ V, V = HL.map (Value.int .u8) := ⟨_, rfl⟩
  obtain ⟨U, hU⟩ : ∃ U, U = ys.map (Value.int .u8) := ⟨_, rfl⟩
  have hVl : V.length = 35 := by rw [hV]; simpa using hHl
  have hUl : U.length = m := by rw [hU]; simpa using hy
  have hVo : ∀ v ∈ V, v.oneCell' = true := by rw [hV]; exact u8_one _
  have hUo : ∀ v ∈ U, v.oneCell' = true := by rw [hU]; exact u8_one _
  have hpV : ∀ X (pp : Option Addr), BytesIn X pp 35 HL → 0 < V.length → ∃ ad, pp = some ad ∧ ∀ j v, V[j]? = some v → X.cell? (ad.add j) = some v := fun X pp hX h0 => by rw [hV] at h0 ⊢; exact in_cells hX hHl h0
  have hpU : ∀ X, Below w.heap.size w X → 0 < U.length → ∃ ad, q = some ad ∧ ∀ j v, U[j]? = some v → X.cell? (ad.add j) = some v := fun X hX h0 => by rw [hU] at h0 ⊢; exact in_cells (in_below h' hX) hy h0
  have hfin : Hid (splice (splice Z 0 V) 35 U = (HL ++ ys).map (Value.int .u8)) := by
    have e1 : splice Z 0 V = V ++ Z.drop 35 := by rw [splice, List.take_zero, List.nil_append, Nat.zero_add, hVl]
    show splice (splice Z 0 V) 35 U = _
    rw [e1, splice, hUl, ← hVl, List.take_left, List.drop_of_length_le (by rw [List.length_append, List.length_drop]; omega), List.append_nil, List.map_append, hV, hU]
  clear hV hU hZ hi hz0 hz1 hz2
  go_enter Tryd.func16, Tryd.ntmps16
  go_wp2_with (fail)
  refine (CO _).mono ?_
  rintro z w1 ⟨rfl, b1⟩
  have C1 := (Cells.made w _ _).on b1
  have k1 := made_below _ _ b1
  have bz : Below w1.heap.size w1 (w1.alloc (.cells Z.toArray 5)) := made_below _ _ (Below.refl _ _)
  have C2 := C1.on bz
  have k2 := below_on k1 bz
  have l0 : w1.cell? ⟨w.heap.size, 2, none⟩ = some (.slice q m d) := (C1.2 2).1
  have m0 : (w1.alloc (.cells Z.toArray 5)).cell? ⟨w.heap.size, 0, none⟩ = some (.int .i64 e) := (C2.2 0).1
  have m1 : (w1.alloc (.cells Z.toArray 5)).cell? ⟨w.heap.size, 1, none⟩ = some (.slice p n c) := (C2.2 1).1
  have m2 : (w1.alloc (.cells Z.toArray 5)).cell? ⟨w.heap.size, 2, none⟩ = some (.slice q m d) := (C2.2 2).1
  clear b1 CO
  replace hS : Hid (S = 35 + m) := hS
  go_wp2_with (fail)
  refine (CH _ (in_below h k2)).mono ?_
  rintro z w3 ⟨ph, ch, rfl, rh, b3⟩
  have hrow : w3.heap[w1.heap.size]? = some (.cells Z.toArray 5 (0, 0)) := (b3.block _ (by simp)).trans (heap_made _ _)
  have k3 : Below w1.heap.size w1 w3 := made_below _ _ b3
  have hlt := C1.1
  clear CH m0 m1 m2 l0 C2 k2 bz
  go_wp2_with (refine wpList_copy_splice (by rfl) (.tmp 12) (.tmp 14) 22 22 (by rfl) 5 Tryd.underlying22 hs5 (some ⟨w1.heap.size, 0, none⟩) ph S S 35 ch (by rfl) (by rfl) w1.heap.size 0 Z 5 hrow V (by rw [hVl]; have := hS.out; exact (Nat.min_eq_left (by omega)).symm) (fun h0 => ⟨rfl, hpV _ _ rh.bytes h0⟩) (by have := hS.out; omega) hVo w1.heap.size w1 k3 (Nat.le_refl _) ?_; intro w4 hg4 hb4)
  have C4 := C1.on hb4
  have l2 : w4.cell? ⟨w.heap.size, 2, none⟩ = some (.slice q m d) := (C4.2 2).1
  have k4 : Below w.heap.size w w4 := below_on k1 hb4
  have hsl : ∀ W, (Instr.slice 22 (.slice (some ⟨w1.heap.size, 0, none⟩) S S) (some (.int .i64 35)) none none).run Tryd.prog W = .ok (.slice (some ⟨w1.heap.size, 35, none⟩) m m) W := fun W => by
    have := slice_35 w1.heap.size 0 S S (by have := hS.out; omega) (Nat.le_refl _) W
    rw [show S - 35 = m by have := hS.out; omega, Nat.zero_add] at this
    exact this
  have hd4 : w4.drew.heap[w1.heap.size]? = some (.cells (splice Z 0 V).toArray 5 (0, 0)) := hg4.out
  obtain ⟨Y, hY⟩ : ∃ Y, Y = splice Z 0 V := ⟨_, rfl⟩
  have hYl : Y.length = S := by rw [hY, length_splice _ _ _ (by have := hS.out; omega), hZl]
  have hfin' : Hid (splice Y 35 U = (HL ++ ys).map (Value.int .u8)) := by rw [hY]; exact hfin
  rw [← hY] at hd4
  have bd4 : Below w1.heap.size w1 w4.drew := hb4.drew
  have hpU' := hpU _ k4.drew
  clear hY hg4 hfin C4 hrow rh b3 k3 hpV hpU hmk C1
  go_region_law (refine step_copy_splice (by rfl) (.tmp 17) (.tmp 19) 22 22 (by rfl) 5 Tryd.underlying22 hs5 (some ⟨w1.heap.size, 35, none⟩) q m m m d (by rfl) (by rfl) w1.heap.size 35 Y 5 hd4 U (by rw [hUl]; exact (Nat.min_self m).symm) (fun h0 => ⟨rfl, hpU' h0⟩) (by have := hS.out; omega) hUo w1.heap.size w1 bd4 (Nat.le_refl _) ?_; intro w5 hg5 hb5)
  all_goals
    go_wp2
    go_ret
    have hg6 := hg5.out
    rw [hfin'.out] at hg6
    refine ⟨_, _, rfl, ?_, below_on k1 hb5⟩
    exact row_own hg6 (by omega) (by rw [List.length_append, hHl, hy]; exact hS.out.symm) (by have := hS.out; omega)

set_option maxHeartbeats 2000000 in
theorem implLetterBytes_no (e : Int) (p q : Option Addr) (n c m d : Nat) (w : World) (hm : m ≤ 9223372036854775807) (hok : ¬ letOk e n m) :
    Calls Tryd.prog 16 #[.agg #[.int .i64 e, .slice p n c, .slice q m d]] w fun z w' => z = .returned (.slice none 0 0) ∧ Below w.heap.size w w' := by
  have CO := fun X => implLetterOk_any e p q n c m d X hm
  rw [decide_eq_false hok] at CO
  go_enter Tryd.func16, Tryd.ntmps16
  go_wp2_with (fail)
  refine (CO _).mono ?_
  rintro z w1 ⟨rfl, b1⟩
  have k1 := made_below _ _ b1
  go_wp2_with (fail)
  go_ret
  exact ⟨rfl, k1⟩

theorem implLetterBytes_any (e : Int) (p q : Option Addr) (n c m d : Nat) (xs ys : List Int) (w : World) (hm : m ≤ 9223372036854775807) (hx : xs.length = n) (hy : ys.length = m) (h : BytesIn w p n xs) (h' : BytesIn w q m ys) :
    Calls Tryd.prog 16 #[.agg #[.int .i64 e, .slice p n c, .slice q m d]] w fun z w' => ∃ p' c', z = .returned (.slice p' (lbN e n m) c') ∧ Own 5 w' w.heap.size w'.heap.size (.slice p' (lbN e n m) c') (lbN e n m) (lbL e xs ys) ∧ Below w.heap.size w w' := by
  rw [lbN, lbL, hx, hy]
  by_cases hok : letOk e n m
  · rw [if_pos hok, if_pos hok]
    exact implLetterBytes_yes e p q n c m d xs ys w hok hx hy h h'
  · rw [if_neg hok, if_neg hok]
    refine (implLetterBytes_no e p q n c m d w hm hok).mono ?_
    rintro z w' ⟨rfl, b⟩
    exact ⟨_, _, rfl, .of ⟨rfl, .inl ⟨rfl, rfl⟩⟩, b⟩

theorem one_own (w : World) : (w.alloc (.cells #[.int .u8 1] 5)).ownsRow w.heap.size 5 1 (.slice (some ⟨w.heap.size, 0, none⟩) 1 1) 1 (([1] : List Int).map (Value.int .u8)) := by
  have h := heap_made w (.cells #[.int .u8 1] 5)
  refine ⟨by simp, .inr ⟨w.heap.size, 1, _, rfl, Nat.le_refl _, h, Nat.le_refl _, by unfold maxLen; omega, by simp, by simp⟩⟩

set_option maxHeartbeats 4000000 in
theorem specLetterBytes_yes (e : Int) (p q : Option Addr) (n c m d : Nat) (xs ys : List Int) (w : World) (hok : letOk e n m) (hx : xs.length = n) (hy : ys.length = m) (h : BytesIn w p n xs) (h' : BytesIn w q m ys) :
    Calls Tryd.prog 25 #[.agg #[.int .i64 e, .slice p n c, .slice q m d]] w fun z w' => ∃ p' c', z = .returned (.slice p' (35 + m) c') ∧ Own 5 w' w.heap.size w'.heap.size (.slice p' (35 + m) c') (35 + m) (headL e xs ++ ys) ∧ Below w.heap.size w w' := by
  obtain ⟨i0, hi, hz0, hz1, hz2⟩ := info_parts infoByte
  have hm1 : 16 ≤ m := hok.2.2.2.1
  have hm2 : m ≤ 1516 := hok.2.2.2.2
  have he : e ≤ 9223372036854775807 := by have := hok.2.1; omega
  have hn : n = 32 := hok.2.2.1
  have CO := fun X => specLetterOk_any e p q n c m d X (by omega)
  rw [decide_eq_true hok] at CO
  have CG := fun X => specGreat_any e 2 X he
  have hFl : ((fitL e 2).reverse).length = 2 := by rw [List.length_reverse, fitL_length, fitN_two hok.1]
  rw [fitN_two hok.1] at CG
  obtain ⟨TL, hTL⟩ : ∃ TL, TL = headL e xs ++ ys := ⟨_, rfl⟩
  obtain ⟨TN, hTN⟩ : ∃ TN, TN = 35 + m := ⟨_, rfl⟩
  rw [← hTL, ← hTN]
  have HT : Hid (TL = [1] ++ (fitL e 2).reverse ++ xs ++ ys) := hTL
  have HN : Hid (TN = 1 + 2 + n + m) := by show _ = _; omega
  clear hTL hTN
  replace hn : n ≤ 1048576 := by omega
  clear hok
  generalize (fitL e 2).reverse = FL at CG hFl HT
  go_enter Tryd.func25, Tryd.ntmps25
  go_wp2_with (fail)
  refine (CO _).mono ?_
  rintro z w1 ⟨rfl, b1⟩
  have C1 := (Cells.made w _ _).on b1
  have k1 := made_below _ _ b1
  clear b1 CO
  have o1 := one_own w1
  have bo : Below w1.heap.size w1 (w1.alloc (.cells #[.int .u8 1] 5)) := made_below _ _ (Below.refl _ _)
  have l0 : (w1.alloc (.cells #[.int .u8 1] 5)).cell? ⟨w.heap.size, 0, none⟩ = some (.int .i64 e) := ((C1.on bo).2 0).1
  go_wp2_with (fail)
  refine (CG _).mono ?_
  rintro z w2 ⟨p2, c2, rfl, r2, b2⟩
  have o2 := owns_below o1 b2
  have k2 : Below w1.heap.size w1 w2 := made_below _ _ b2
  have hin2 := r2.bytes
  have hsz2 := k2.size
  clear o1 bo l0 CG r2 b2
  obtain ⟨L3, hL3⟩ : ∃ L3, [1] ++ FL = L3 := ⟨_, rfl⟩
  obtain ⟨L4, hL4⟩ : ∃ L4, L3 ++ xs = L4 := ⟨_, rfl⟩
  obtain ⟨N4, hN4⟩ : ∃ N4, 3 + n = N4 := ⟨_, rfl⟩
  have hN4' : N4 ≤ 2000000 := by omega
  replace hL3 : Hid ([1] ++ FL = L3) := hL3
  replace hL4 : Hid (L3 ++ xs = L4) := hL4
  replace hN4 : Hid (3 + n = N4) := hN4
  go_wp2_with (first
    | (at_builtin; refine list_spreadA hi hz0 hz1 hz2 (.tmp 8) (.tmp 11) 22 Tryd.underlying22 o2 hin2 hFl (by omega) (by omega) hsz2 (by rfl) (by rfl) (by rfl) (by rfl) ?_; intro p3 c3 w3 o3 b3; rw [hL3.out, show (1 + 2 : Nat) = 3 from rfl] at o3; rw [show (1 + 2 : Nat) = 3 from rfl]; have k3 := k2.trans b3; have hsz3 := k3.size; have l1 : w3.cell? ⟨w.heap.size, 1, none⟩ = some (.slice p n c) := ((C1.on k3).2 1).1; have hin3 := in_below h (below_on k1 k3); clear o2 hin2 b3)
    | (at_builtin; refine list_spreadA hi hz0 hz1 hz2 (.tmp 13) (.tmp 15) 22 Tryd.underlying22 o3 hin3 hx (by omega) (by omega) hsz3 (by rfl) (by rfl) (by rfl) (by rfl) ?_; intro p4 c4 w4 o4 b4; rw [hL4.out, hN4.out] at o4; rw [hN4.out]; have k4 := k3.trans b4; have hsz4 := k4.size; have l2 : w4.cell? ⟨w.heap.size, 2, none⟩ = some (.slice q m d) := ((C1.on k4).2 2).1; have hin4 := in_below h' (below_on k1 k4); clear o3 hin3 b4)
    | (at_builtin; refine list_spreadA hi hz0 hz1 hz2 (.tmp 17) (.tmp 19) 22 Tryd.underlying22 o4 hin4 hy (by omega) (by omega) hsz4 (by rfl) (by rfl) (by rfl) (by rfl) ?_; intro p5 c5 w5 o5 b5; rw [← hL4.out, ← hL3.out, ← HT.out, show N4 + m = TN by have := hN4.out; have := HN.out; omega] at o5; rw [show N4 + m = TN by have := hN4.out; have := HN.out; omega]; have k5 := k4.trans b5; clear o4 hin4 b5))
  go_ret
  exact ⟨_, _, rfl, .of (owns_mono o5 k1.size), below_on k1 k5⟩

set_option maxHeartbeats 2000000 in
theorem specLetterBytes_no (e : Int) (p q : Option Addr) (n c m d : Nat) (w : World) (hm : m ≤ 9223372036854775807) (hok : ¬ letOk e n m) :
    Calls Tryd.prog 25 #[.agg #[.int .i64 e, .slice p n c, .slice q m d]] w fun z w' => ∃ p' c', z = .returned (.slice p' 0 c') ∧ Own 5 w' w.heap.size w'.heap.size (.slice p' 0 c') 0 [] ∧ Below w.heap.size w w' := by
  have CO := fun X => specLetterOk_any e p q n c m d X hm
  rw [decide_eq_false hok] at CO
  go_enter Tryd.func25, Tryd.ntmps25
  go_wp2_with (fail)
  refine (CO _).mono ?_
  rintro z w1 ⟨rfl, b1⟩
  have k1 := made_below _ _ b1
  have o1 : (w1.alloc (.cells #[] 5)).ownsRow w1.heap.size 5 1 (.slice (some ⟨w1.heap.size, 0, none⟩) 0 0) 0 (([] : List Int).map (Value.int .u8)) := World.ownsRow_made w1 #[] 0 (Nat.le_refl _) (by unfold maxLen; omega) rfl
  have bo : Below w1.heap.size w1 (w1.alloc (.cells #[] 5)) := made_below _ _ (Below.refl _ _)
  go_wp2_with (fail)
  go_ret
  exact ⟨_, _, rfl, .of (owns_mono o1 k1.size), below_on k1 bo⟩

theorem specLetterBytes_any (e : Int) (p q : Option Addr) (n c m d : Nat) (xs ys : List Int) (w : World) (hm : m ≤ 9223372036854775807) (hx : xs.length = n) (hy : ys.length = m) (h : BytesIn w p n xs) (h' : BytesIn w q m ys) :
    Calls Tryd.prog 25 #[.agg #[.int .i64 e, .slice p n c, .slice q m d]] w fun z w' => ∃ p' c', z = .returned (.slice p' (lbN e n m) c') ∧ Own 5 w' w.heap.size w'.heap.size (.slice p' (lbN e n m) c') (lbN e n m) (lbL e xs ys) ∧ Below w.heap.size w w' := by
  rw [lbN, lbL, hx, hy]
  by_cases hok : letOk e n m
  · rw [if_pos hok, if_pos hok]
    exact specLetterBytes_yes e p q n c m d xs ys w hok hx hy h h'
  · rw [if_neg hok, if_neg hok]
    exact specLetterBytes_no e p q n c m d w hm hok

end Go.Proofs.YtdjdanpicbaieaaDoor

namespace Go.Proofs.YtdjdanpicbaieaaDoor
open Go.RowKit
set_option maxRecDepth 100000

set_option maxHeartbeats 2000000 in
theorem l1Below_wide (a : Nat) (p : Option Addr) (n c : Nat) (xs : List Int) (m : Int) (w : World) (hm : 256 < m) (hm2 : m ≤ 100000) (hcur : Cur w a p n c xs) :
    Calls Tryd.prog 42 #[.pointer (some ⟨a, 0, none⟩), .int .i64 m] w fun e w' => ∃ x : Int, e = .returned (.int .i64 x) ∧ 0 ≤ x ∧ x < m ∧ Cur w' a p n c xs ∧ w.grownBy w' (some a) := by
  have c1 : ¬ m ≤ 0 := by omega
  have c2 : ¬ m ≤ 256 := by omega
  go_enter Tryd.func42, Tryd.ntmps42
  go_wp2_with (fail)
  refine (l1Byte_any a p n c xs _ hcur).mono ?_
  rintro e w1 ⟨x, rfl, hx0, hx1, hc1, g1⟩
  go_wp2_with (fail)
  refine (l1Byte_any a p n c xs _ hc1).mono ?_
  rintro e w2 ⟨y, rfl, hy0, hy1, hc2, g2⟩
  replace g2 := grown_trans g1 g2
  go_wp2_with (fail)
  refine (l1Byte_any a p n c xs _ hc2).mono ?_
  rintro e w3 ⟨z, rfl, hz0, hz1, hc3, g3⟩
  replace g3 := grown_trans g2 g3
  go_wp2_with (fail)
  refine (l1Byte_any a p n c xs _ hc3).mono ?_
  rintro e w4 ⟨v, rfl, hv0, hv1, hc4, g4⟩
  replace g4 := grown_trans g3 g4
  have hz : (m == 0) = false := by simp; omega
  clear g1 g2 g3 hc1 hc2 hc3
  go_wp2_with (fail)
  go_ret
  exact ⟨_, rfl, Int.emod_nonneg _ (by omega), Int.emod_lt_of_pos _ (by omega), hc4, g4⟩
theorem l1Below_all (a : Nat) (p : Option Addr) (n c : Nat) (xs : List Int) (m : Int) (w : World) (hm : 1 ≤ m) (hm2 : m ≤ 100000) (hcur : Cur w a p n c xs) :
    Calls Tryd.prog 42 #[.pointer (some ⟨a, 0, none⟩), .int .i64 m] w fun e w' => ∃ x : Int, e = .returned (.int .i64 x) ∧ 0 ≤ x ∧ x < m ∧ Cur w' a p n c xs ∧ w.grownBy w' (some a) := by
  by_cases h : m ≤ 256
  · exact l1Below_any a p n c xs m w hm h hcur
  · exact l1Below_wide a p n c xs m w (by omega) hm2 hcur

def LetterIs (e : Ending) (w w' : World) : Prop := ∃ ep p1 n1 c1 p2 n2 c2 ys zs, e = .returned (.agg #[.int .i64 ep, .slice p1 n1 c1, .slice p2 n2 c2]) ∧ ((-1 ≤ ep ∧ ep ≤ 65536) ∧ n1 ≤ 1000 ∧ n2 ≤ 2000 ∧ (∀ y ∈ ys, 0 ≤ y ∧ y < 256) ∧ ∀ y ∈ zs, 0 ≤ y ∧ y < 256) ∧
      Own 5 w' w.heap.size w'.heap.size (.slice p1 n1 c1) n1 ys ∧ Own 5 w' w.heap.size w'.heap.size (.slice p2 n2 c2) n2 zs ∧ Below w.heap.size w w'

set_option maxHeartbeats 2000000 in
theorem dLetterOk (p : Option Addr) (n c : Nat) (xs : List Int) (w : World) (hn : n ≤ 1048576) (hx : xs.length = n) (hb : BytesIn w p n xs) (hr : ∀ x ∈ xs, 0 ≤ x ∧ x < 256) :
    Calls Tryd.prog 23 #[.slice p n c] w fun e w' => LetterIs e w w' := by
  obtain ⟨W0, hW0⟩ : ∃ W0, W0 = w.alloc (.cells #[.int .i64 0, .slice none 0 0, .slice none 0 0] 31) := ⟨_, rfl⟩
  have C0 : Cells W0 w.heap.size #[.int .i64 0, .slice none 0 0, .slice none 0 0] := by rw [hW0]; exact Cells.made _ _ _
  have bW0 : Below w.heap.size w W0 := by rw [hW0]; exact made_below _ _ (Below.refl _ _)
  have zW0 : w.heap.size + 1 = W0.heap.size := by rw [hW0]; simp
  replace hW0 : Hid (w.alloc (.cells #[.int .i64 0, .slice none 0 0, .slice none 0 0] 31) = W0) := hW0.symm
  go_enter Tryd.func23, Tryd.ntmps23
  go_wp2_with (rw [hW0.out])
  refine (l1New_any p n c xs _ hn hx (in_below hb bW0) hr).mono ?_
  rintro e w1 ⟨a, rfl, ha, ha1, hc1, b1⟩
  replace C0 := C0.on b1
  have k1 := below_on bW0 b1
  have z1 := b1.size
  go_wp2_with (fail)
  refine (l11DrawBent_any a p n c xs _ hc1).mono ?_
  rintro e w2 ⟨ep, p1, n1, c1, p2, n2, c2, ys, zs, rfl, hk, o1, o2, hc2, g2⟩
  replace C0 := C0.grown g2 (fun x => by cases x; omega)
  have k2 := below_cur k1 g2 (show w.heap.size ≤ a by omega)
  have r1 := owns_mono o1.1 (show w.heap.size + 1 ≤ w1.heap.size by omega)
  have r2 := owns_mono o2.1 (show w.heap.size + 1 ≤ w1.heap.size by omega)
  clear o1 o2 hc2 g2 hc1 hW0 b1 bW0
  obtain ⟨B0, hB0e⟩ : ∃ B0, B0 = w.heap.size := ⟨_, rfl⟩
  have zB0 : w.heap.size ≤ B0 := by omega
  rw [← hB0e] at C0 r1 r2
  rw [show (⟨w.heap.size, 0, none⟩ : Addr) = ⟨B0, 0, none⟩ by rw [hB0e]]
  have zB1 : w.heap.size ≤ B0 + 1 := by omega
  clear hB0e ha zW0 z1
  have m0 : w2.cell? ⟨B0, 0, none⟩ = some (.int .i64 0) := (C0.2 0).1
  have f0 := (C0.2 0).2
  have D1 := C0.set 0 (by simp) (.int .i64 ep)
  have m1 : (w2.setCell ⟨B0, 0, none⟩ (.int .i64 ep)).cell? ⟨B0, 1, none⟩ = some (.slice none 0 0) := (D1.2 1).1
  have f1 := (D1.2 1).2
  have D2 := D1.set 1 (by simp) (.slice p1 n1 c1)
  have m2 : ((w2.setCell ⟨B0, 0, none⟩ (.int .i64 ep)).setCell ⟨B0, 1, none⟩ (.slice p1 n1 c1)).cell? ⟨B0, 2, none⟩ = some (.slice none 0 0) := (D2.2 2).1
  have f2 := (D2.2 2).2
  have D3 := D2.set 2 (by simp) (.slice p2 n2 c2)
  obtain ⟨X3, hX3⟩ : ∃ X3, X3 = ((w2.setCell ⟨B0, 0, none⟩ (.int .i64 ep)).setCell ⟨B0, 1, none⟩ (.slice p1 n1 c1)).setCell ⟨B0, 2, none⟩ (.slice p2 n2 c2) := ⟨_, rfl⟩
  have bX : Below w.heap.size w2 X3 := by rw [hX3]; exact (((Below.refl _ _).setCell (show w.heap.size ≤ B0 by omega) _).setCell (show w.heap.size ≤ B0 by omega) _).setCell (show w.heap.size ≤ B0 by omega) _
  have oX := ownsRow_setCell_below (a := ⟨B0, 2, none⟩) (ownsRow_setCell_below (a := ⟨B0, 1, none⟩) (ownsRow_setCell_below (a := ⟨B0, 0, none⟩) r1 (show B0 < B0 + 1 by omega) (.int .i64 ep)) (show B0 < B0 + 1 by omega) (.slice p1 n1 c1)) (show B0 < B0 + 1 by omega) (.slice p2 n2 c2)
  rw [← hX3] at oX
  have qX := ownsRow_setCell_below (a := ⟨B0, 2, none⟩) (ownsRow_setCell_below (a := ⟨B0, 1, none⟩) (ownsRow_setCell_below (a := ⟨B0, 0, none⟩) r2 (show B0 < B0 + 1 by omega) (.int .i64 ep)) (show B0 < B0 + 1 by omega) (.slice p1 n1 c1)) (show B0 < B0 + 1 by omega) (.slice p2 n2 c2)
  rw [← hX3] at qX
  rw [← hX3] at D3
  have y0 : X3.cell? ⟨B0, 0, none⟩ = some (.int .i64 ep) := (D3.2 0).1
  have y1 : X3.cell? ⟨B0, 1, none⟩ = some (.slice p1 n1 c1) := (D3.2 1).1
  have y2 : X3.cell? ⟨B0, 2, none⟩ = some (.slice p2 n2 c2) := (D3.2 2).1
  replace hX3 : Hid (((w2.setCell ⟨B0, 0, none⟩ (.int .i64 ep)).setCell ⟨B0, 1, none⟩ (.slice p1 n1 c1)).setCell ⟨B0, 2, none⟩ (.slice p2 n2 c2) = X3) := hX3.symm
  clear D1 D2 D3 C0
  go_wp2_with (first | rw [hX3.out])
  refine bodyPost_ret (v := .agg #[.int .i64 ep, .slice p1 n1 c1, .slice p2 n2 c2]) ?_ rfl ⟨_, _, _, _, _, _, _, _, _, rfl, hk, .of (owns_mono oX zB1), .of (owns_mono qX zB1), k2.trans bX⟩
  simp only [results, Tryd.f23]
  go_simp

set_option maxHeartbeats 2000000 in
theorem dLetterBytes (p : Option Addr) (n c : Nat) (xs : List Int) (w : World) (hn : n ≤ 1048576) (hx : xs.length = n) (hb : BytesIn w p n xs) (hr : ∀ x ∈ xs, 0 ≤ x ∧ x < 256) :
    Calls Tryd.prog 15 #[.slice p n c] w fun e w' => LetterIs e w w' := by
  obtain ⟨W0, hW0⟩ : ∃ W0, W0 = w.alloc (.cells #[.int .i64 0, .slice none 0 0, .slice none 0 0] 31) := ⟨_, rfl⟩
  have C0 : Cells W0 w.heap.size #[.int .i64 0, .slice none 0 0, .slice none 0 0] := by rw [hW0]; exact Cells.made _ _ _
  have bW0 : Below w.heap.size w W0 := by rw [hW0]; exact made_below _ _ (Below.refl _ _)
  have zW0 : w.heap.size + 1 = W0.heap.size := by rw [hW0]; simp
  replace hW0 : Hid (w.alloc (.cells #[.int .i64 0, .slice none 0 0, .slice none 0 0] 31) = W0) := hW0.symm
  go_enter Tryd.func15, Tryd.ntmps15
  go_wp2_with (rw [hW0.out])
  refine (l1New_any p n c xs _ hn hx (in_below hb bW0) hr).mono ?_
  rintro e w1 ⟨a, rfl, ha, ha1, hc1, b1⟩
  replace C0 := C0.on b1
  have k1 := below_on bW0 b1
  have z1 := b1.size
  go_wp2_with (fail)
  refine (l11DrawBent_any a p n c xs _ hc1).mono ?_
  rintro e w2 ⟨ep, p1, n1, c1, p2, n2, c2, ys, zs, rfl, hk, o1, o2, hc2, g2⟩
  replace C0 := C0.grown g2 (fun x => by cases x; omega)
  have k2 := below_cur k1 g2 (show w.heap.size ≤ a by omega)
  have r1 := owns_mono o1.1 (show w.heap.size + 1 ≤ w1.heap.size by omega)
  have r2 := owns_mono o2.1 (show w.heap.size + 1 ≤ w1.heap.size by omega)
  clear o1 o2 hc2 g2 hc1 hW0 b1 bW0
  obtain ⟨B0, hB0e⟩ : ∃ B0, B0 = w.heap.size := ⟨_, rfl⟩
  have zB0 : w.heap.size ≤ B0 := by omega
  rw [← hB0e] at C0 r1 r2
  rw [show (⟨w.heap.size, 0, none⟩ : Addr) = ⟨B0, 0, none⟩ by rw [hB0e]]
  have zB1 : w.heap.size ≤ B0 + 1 := by omega
  clear hB0e ha zW0 z1
  have m0 : w2.cell? ⟨B0, 0, none⟩ = some (.int .i64 0) := (C0.2 0).1
  have f0 := (C0.2 0).2
  have D1 := C0.set 0 (by simp) (.int .i64 ep)
  have m1 : (w2.setCell ⟨B0, 0, none⟩ (.int .i64 ep)).cell? ⟨B0, 1, none⟩ = some (.slice none 0 0) := (D1.2 1).1
  have f1 := (D1.2 1).2
  have D2 := D1.set 1 (by simp) (.slice p1 n1 c1)
  have m2 : ((w2.setCell ⟨B0, 0, none⟩ (.int .i64 ep)).setCell ⟨B0, 1, none⟩ (.slice p1 n1 c1)).cell? ⟨B0, 2, none⟩ = some (.slice none 0 0) := (D2.2 2).1
  have f2 := (D2.2 2).2
  have D3 := D2.set 2 (by simp) (.slice p2 n2 c2)
  obtain ⟨X3, hX3⟩ : ∃ X3, X3 = ((w2.setCell ⟨B0, 0, none⟩ (.int .i64 ep)).setCell ⟨B0, 1, none⟩ (.slice p1 n1 c1)).setCell ⟨B0, 2, none⟩ (.slice p2 n2 c2) := ⟨_, rfl⟩
  have bX : Below w.heap.size w2 X3 := by rw [hX3]; exact (((Below.refl _ _).setCell (show w.heap.size ≤ B0 by omega) _).setCell (show w.heap.size ≤ B0 by omega) _).setCell (show w.heap.size ≤ B0 by omega) _
  have oX := ownsRow_setCell_below (a := ⟨B0, 2, none⟩) (ownsRow_setCell_below (a := ⟨B0, 1, none⟩) (ownsRow_setCell_below (a := ⟨B0, 0, none⟩) r1 (show B0 < B0 + 1 by omega) (.int .i64 ep)) (show B0 < B0 + 1 by omega) (.slice p1 n1 c1)) (show B0 < B0 + 1 by omega) (.slice p2 n2 c2)
  rw [← hX3] at oX
  have qX := ownsRow_setCell_below (a := ⟨B0, 2, none⟩) (ownsRow_setCell_below (a := ⟨B0, 1, none⟩) (ownsRow_setCell_below (a := ⟨B0, 0, none⟩) r2 (show B0 < B0 + 1 by omega) (.int .i64 ep)) (show B0 < B0 + 1 by omega) (.slice p1 n1 c1)) (show B0 < B0 + 1 by omega) (.slice p2 n2 c2)
  rw [← hX3] at qX
  rw [← hX3] at D3
  have y0 : X3.cell? ⟨B0, 0, none⟩ = some (.int .i64 ep) := (D3.2 0).1
  have y1 : X3.cell? ⟨B0, 1, none⟩ = some (.slice p1 n1 c1) := (D3.2 1).1
  have y2 : X3.cell? ⟨B0, 2, none⟩ = some (.slice p2 n2 c2) := (D3.2 2).1
  replace hX3 : Hid (((w2.setCell ⟨B0, 0, none⟩ (.int .i64 ep)).setCell ⟨B0, 1, none⟩ (.slice p1 n1 c1)).setCell ⟨B0, 2, none⟩ (.slice p2 n2 c2) = X3) := hX3.symm
  clear D1 D2 D3 C0
  go_wp2_with (first | rw [hX3.out])
  refine bodyPost_ret (v := .agg #[.int .i64 ep, .slice p1 n1 c1, .slice p2 n2 c2]) ?_ rfl ⟨_, _, _, _, _, _, _, _, _, rfl, hk, .of (owns_mono oX zB1), .of (owns_mono qX zB1), k2.trans bX⟩
  simp only [results, Tryd.f15]
  go_simp

set_option maxHeartbeats 2000000 in
theorem dKeysOf (p : Option Addr) (n c : Nat) (xs : List Int) (w : World) (hn : n ≤ 1048576) (hx : xs.length = n) (hb : BytesIn w p n xs) (hr : ∀ x ∈ xs, 0 ≤ x ∧ x < 256) :
    Calls Tryd.prog 20 #[.slice p n c] w fun e w' => ∃ g1 n1 c1 y1 g2 n2 c2 y2 g3 n3 c3 y3, e = .returned (.tuple #[.slice (some ⟨g1, 0, none⟩) n1 c1, .slice (some ⟨g2, 0, none⟩) n2 c2, .slice (some ⟨g3, 0, none⟩) n3 c3]) ∧ (n1 ≤ 1000 ∧ n2 ≤ 1000 ∧ n3 ≤ 1000 ∧ (∀ y ∈ y1, 0 ≤ y ∧ y < 256) ∧ (∀ y ∈ y2, 0 ≤ y ∧ y < 256) ∧ ∀ y ∈ y3, 0 ≤ y ∧ y < 256) ∧ Own 5 w' w.heap.size w'.heap.size (.slice (some ⟨g1, 0, none⟩) n1 c1) n1 y1 ∧ Own 5 w' w.heap.size w'.heap.size (.slice (some ⟨g2, 0, none⟩) n2 c2) n2 y2 ∧ Own 5 w' w.heap.size w'.heap.size (.slice (some ⟨g3, 0, none⟩) n3 c3) n3 y3 ∧ Below w.heap.size w w' := by
  go_enter Tryd.func20, Tryd.ntmps20
  go_wp2_with (fail)
  refine (l1New_any p n c xs _ hn hx hb hr).mono ?_
  rintro e w1 ⟨a, rfl, ha, ha1, hc1, b1⟩
  have hl1 := hc1.lt
  go_wp2_with (fail)
  refine (l1DrawNear_any a p n c xs 32 w1 (by omega) (by omega) hc1).mono ?_
  rintro e w2 ⟨g1, n1, c1, y1, rfl, hk1, o1, hy1, hc2, gg2⟩
  have bel2 := below_cur b1 gg2 ha
  have hl2 := hc2.lt
  go_wp2_with (fail)
  refine (l1DrawNear_any a p n c xs 32 w2 (by omega) (by omega) hc2).mono ?_
  rintro e w3 ⟨g2, n2, c2, y2, rfl, hk2, o2, hy2, hc3, gg3⟩
  have bel3 := below_cur bel2 gg3 ha
  have hl3 := hc3.lt
  have o1' := owns_cur o1.1 gg3 (by omega)
  go_wp2_with (fail)
  refine (l1DrawNear_any a p n c xs 32 w3 (by omega) (by omega) hc3).mono ?_
  rintro e w4 ⟨g3, n3, c3, y3, rfl, hk3, o3, hy3, hc4, gg4⟩
  have bel4 := below_cur bel3 gg4 ha
  replace o1' := owns_cur o1' gg4 (by omega)
  have o2' := owns_cur o2.1 gg4 (by omega)
  clear o1 o2 gg2 gg3 gg4 hc1 hc2 hc3 hc4
  go_wp2_with (fail)
  refine bodyPost_ret (results_tmp3 rfl _ _ _) rfl ⟨_, _, _, _, _, _, _, _, _, _, _, _, rfl, ⟨hk1, hk2, hk3, hy1, hy2, hy3⟩, .of (owns_mono o1' b1.size), .of (owns_mono o2' bel2.size), .of (owns_mono o3.1 bel3.size), bel4⟩

theorem mapU_set2 (xs : List Int) (k : Nat) (v : Int) : (xs.map (Value.int .u8)).set k (.int .u8 v) = (xs.set k v).map (Value.int .u8) := List.map_set.symm
theorem rowU_cell2 {w : World} {lo e g n c : Nat} {xs : List Int} (h : w.ownsRow lo e 1 (.slice (some ⟨g, 0, none⟩) n c) n (xs.map (Value.int .u8))) (k : Nat) (hk : k < n) : w.cell? ⟨g, k, none⟩ = some (.int .u8 (xs.getD k 0)) := by
  have hl : xs.length = n := owns_len h
  rw [h.cellAt k (by omega)]
  simp [List.getD_eq_getElem?_getD, List.getElem?_eq_getElem (show k < xs.length by omega)]

end Go.Proofs.YtdjdanpicbaieaaDoor

namespace Go.Proofs.YtdjdanpicbaieaaDoor
open Go.RowKit
set_option maxRecDepth 100000

theorem own_nil {e : Nat} {w : World} {lo hi : Nat} {p : Option Addr} {n c : Nat} {xs : List Int} (h : Own e w lo hi (.slice p n c) n xs) (hp : p = none) : c = 0 := by
  subst hp
  rcases h.1.2 with ⟨hv, _⟩ | ⟨g, cap, cur, hv, _⟩
  · cases hv; rfl
  · cases hv
theorem lbL_byte {e : Int} {xs ys : List Int} (hx : ∀ x ∈ xs, 0 ≤ x ∧ x < 256) (hy : ∀ x ∈ ys, 0 ≤ x ∧ x < 256) : ∀ x ∈ lbL e xs ys, 0 ≤ x ∧ x < 256 := by
  intro x h
  unfold lbL at h
  split at h
  · unfold headL at h
    rcases List.mem_append.1 h with h | h
    · rcases List.mem_append.1 h with h | h
      · rcases List.mem_append.1 h with h | h
        · simp at h; omega
        · obtain ⟨i, _, rfl⟩ := List.mem_map.1 (List.mem_reverse.1 h)
          exact ⟨Int.emod_nonneg _ (by decide), Int.emod_lt_of_pos _ (by decide)⟩
      · exact hx x h
    · exact hy x h
  · cases h

set_option maxHeartbeats 4000000 in
theorem dLetterOf (p : Option Addr) (n c : Nat) (xs : List Int) (w : World) (hn : n ≤ 1048576) (hx : xs.length = n) (hb : BytesIn w p n xs) (hr : ∀ x ∈ xs, 0 ≤ x ∧ x < 256) :
    Calls Tryd.prog 17 #[.slice p n c] w fun e w' => ∃ q k d ys, e = .returned (.slice q k d) ∧ (k ≤ 1551 ∧ ∀ y ∈ ys, 0 ≤ y ∧ y < 256) ∧ Own 5 w' w.heap.size w'.heap.size (.slice q k d) k ys ∧ Below w.heap.size w w' := by
  go_enter Tryd.func17, Tryd.ntmps17
  go_wp2_with (fail)
  refine (l1New_any p n c xs _ hn hx hb hr).mono ?_
  rintro e w1 ⟨a, rfl, ha, ha1, hc1, b1⟩
  have hl1 := hc1.lt
  go_wp2_with (fail)
  refine (l11DrawBent_any a p n c xs _ hc1).mono ?_
  rintro e w2 ⟨ep, p1, n1, c1, p2, n2, c2, ys, zs, rfl, ⟨_, hn1, hn2, by1, by2⟩, o1, o2, hc2, g2⟩
  have k2 := below_cur b1 g2 ha
  have CB := specLetterBytes_any ep p1 p2 n1 c1 n2 c2 ys zs w2 (by omega) o1.len o2.len o1.bytes o2.bytes
  have hNle := lbN_le ep n1 n2
  have hbb := lbL_byte (e := ep) by1 by2
  generalize lbN ep n1 n2 = N at CB hNle
  generalize lbL ep ys zs = L at CB hbb
  have z2 := k2.size
  clear o1 o2 g2 hc1
  go_wp2_with (fail)
  refine CB.mono ?_
  rintro e w3 ⟨pb, cb, rfl, rb, b3⟩
  have hc3 := hc2.below b3 hc2.lt hc2.code_lt
  have k3 := below_on k2 b3
  have hl2 := hc2.lt
  have r3 := owns_mono rb.1 (show w.heap.size ≤ w2.heap.size from z2)
  have hal : a < w2.heap.size := hl2
  go_wp2_with (fail)
  refine (l1Below_any a p n c xs 6 _ (by omega) (by omega) hc3).mono ?_
  rintro e w4 ⟨t, rfl, ht0, ht1, hc4, g4⟩
  have rr := Own.of (owns_cur rb.1 g4 (by omega))
  have k4 := below_cur k3 g4 ha
  have hcap := rr.cap
  clear rb r3 hc2 hc3 b3 CB g4
  by_cases t0 : t = 0
  · subst t0
    go_wp2_with (fail)
    refine (l1Below_all a p n c xs ((N : Int) + 1) _ (by omega) (by omega) hc4).mono ?_
    rintro e w5 ⟨v, rfl, hv0, hv1, hc5, g5⟩
    obtain ⟨V, eV⟩ : ∃ V : Nat, v = (V : Int) := ⟨v.toNat, by omega⟩
    subst eV
    have r5 := Own.of (owns_cur rr.1 g5 (by omega))
    have k5 := below_cur k4 g5 ha
    have sl := fun W => slice_to pb N cb V (by omega) (fun h => own_nil r5 h) W
    have rt := r5.take (k := V) (by omega)
    clear rr r5 g5 hc5 hc4
    go_wp2_with (fail)
    go_ret
    exact ⟨_, _, _, _, rfl, ⟨by omega, fun y hy => hbb y (List.mem_of_mem_take hy)⟩, ⟨owns_mono rt.1 z2, rt.2⟩, k5⟩
  · have d0 : (t == 0) = false := by simpa using t0
    by_cases t1 : t = 1
    · subst t1
      by_cases hN : N = 0
      · subst hN
        go_wp2_with (fail)
        go_ret
        exact ⟨_, _, _, _, rfl, ⟨by omega, hbb⟩, ⟨owns_mono rr.1 z2, rr.2⟩, k4⟩
      · have hNp : (0 : Int) < (N : Int) := by omega
        obtain ⟨g, hg⟩ := owns_at rr.1 (by omega)
        subst hg
        have c1' := rowU_cell2 rr.1 0 (by omega)
        have f1 := rr.1.frozenAt 0
        have s1 := rr.1.stored 0 (.int .u8 2)
        rw [mapU_set2] at s1
        have hlt := (rr.1.lt g rfl).1
        have k5 := k4.grown s1.2 k4.size (fun k hk => by cases hk; omega)
        have rs := Own.of s1.1
        have hb2 : ∀ y ∈ L.set 0 2, 0 ≤ y ∧ y < 256 := fun y hy => by
          rcases List.mem_or_eq_of_mem_set hy with h | h
          · exact hbb y h
          · omega
        clear rr s1 hc4
        go_wp2_with (fail)
        go_ret
        exact ⟨_, _, _, _, rfl, ⟨by omega, hb2⟩, ⟨owns_mono rs.1 z2, rs.2⟩, k5⟩
    · have d1 : (t == 1) = false := by simpa using t1
      go_wp2_with (fail)
      go_ret
      exact ⟨_, _, _, _, rfl, ⟨by omega, hbb⟩, ⟨owns_mono rr.1 z2, rr.2⟩, k4⟩

set_option maxHeartbeats 4000000 in
theorem sameLetter_yes (e : Int) (p q p' q' : Option Addr) (n c m d c' d' : Nat) (xs ys : List Int) (w : World) (hx : xs.length = n) (hy : ys.length = m) (h1 : BytesIn w p n xs) (h2 : BytesIn w q m ys) (h3 : BytesIn w p' n xs) (h4 : BytesIn w q' m ys) :
    Calls Tryd.prog 26 #[.agg #[.int .i64 e, .slice p n c, .slice q m d], .agg #[.int .i64 e, .slice p' n c', .slice q' m d']] w fun z w' => z = .returned (.bool true) ∧ Below w.heap.size w w' := by
  obtain ⟨B1, hB1⟩ : ∃ B1, B1 = (w.alloc (.cells #[.int .i64 e, .slice p n c, .slice q m d] 31)).heap.size := ⟨_, rfl⟩
  have eB1 : B1 = w.heap.size + 1 := by rw [hB1]; simp
  obtain ⟨W, hW⟩ : ∃ W, W = (w.alloc (.cells #[.int .i64 e, .slice p n c, .slice q m d] 31)).alloc (.cells #[.int .i64 e, .slice p' n c', .slice q' m d'] 31) := ⟨_, rfl⟩
  have b2 : Below (w.alloc (.cells #[.int .i64 e, .slice p n c, .slice q m d] 31)).heap.size (w.alloc (.cells #[.int .i64 e, .slice p n c, .slice q m d] 31)) W := by rw [hW]; exact made_below _ _ (Below.refl _ _)
  have C0 : Cells W w.heap.size #[.int .i64 e, .slice p n c, .slice q m d] := (Cells.made w _ _).on b2
  have C1 : Cells W B1 #[.int .i64 e, .slice p' n c', .slice q' m d'] := by rw [hW, hB1]; exact Cells.made _ _ _
  have bW : Below w.heap.size w W := made_below _ _ b2
  have l0 : W.cell? ⟨w.heap.size, 0, none⟩ = some (.int .i64 e) := (C0.2 0).1
  have l1 : W.cell? ⟨w.heap.size, 1, none⟩ = some (.slice p n c) := (C0.2 1).1
  have l2 : W.cell? ⟨w.heap.size, 2, none⟩ = some (.slice q m d) := (C0.2 2).1
  have m0 : W.cell? ⟨w.heap.size + 1, 0, none⟩ = some (.int .i64 e) := by rw [← eB1]; exact (C1.2 0).1
  have m1 : W.cell? ⟨w.heap.size + 1, 1, none⟩ = some (.slice p' n c') := by rw [← eB1]; exact (C1.2 1).1
  have m2 : W.cell? ⟨w.heap.size + 1, 2, none⟩ = some (.slice q' m d') := by rw [← eB1]; exact (C1.2 2).1
  have t1 := text_of (P := Tryd.prog) (in_below h1 bW) hx c 22 5 9 Tryd.underlying22 Tryd.underlying5 Tryd.underlying9
  have t2 := text_of (P := Tryd.prog) (in_below h2 bW) hy d 22 5 9 Tryd.underlying22 Tryd.underlying5 Tryd.underlying9
  have t3 := text_of (P := Tryd.prog) (in_below h3 bW) hx c' 22 5 9 Tryd.underlying22 Tryd.underlying5 Tryd.underlying9
  have t4 := text_of (P := Tryd.prog) (in_below h4 bW) hy d' 22 5 9 Tryd.underlying22 Tryd.underlying5 Tryd.underlying9
  generalize strOfNums xs = SX at t1 t3
  generalize strOfNums ys = SY at t2 t4
  replace hW : Hid ((w.alloc (.cells #[.int .i64 e, .slice p n c, .slice q m d] 31)).alloc (.cells #[.int .i64 e, .slice p' n c', .slice q' m d'] 31) = W) := hW.symm
  clear h1 h2 h3 h4 C0 C1 b2 hB1 eB1 hx hy
  go_enter Tryd.func26, Tryd.ntmps26
  go_wp2_with (rw [hW.out])
  go_ret
  exact ⟨rfl, bW⟩

end Go.Proofs.YtdjdanpicbaieaaDoor

namespace Go.Proofs.YtdjdanpicbaieaaDoor
set_option maxRecDepth 100000

theorem fit_rev {e : Int} (h0 : 0 ≤ e) : (fitL e 2).reverse = [e / 256 % 256, e % 256] := by
  have h : fitL e 2 = littleL e 2 := by rw [fitL, fitN_two h0]
  rw [h]
  simp [littleL, List.range_succ]
theorem head_is {e : Int} (h0 : 0 ≤ e) (xs : List Int) : headL e xs = 1 :: e / 256 % 256 :: e % 256 :: xs := by
  rw [headL, fit_rev h0]
  rfl
theorem lb_is {e : Int} {xs ys : List Int} (h : letOk e xs.length ys.length) : lbL e xs ys = 1 :: e / 256 % 256 :: e % 256 :: (xs ++ ys) := by
  rw [lbL, if_pos h, head_is h.1]
  rfl
theorem lo_of_lb {e : Int} {xs ys : List Int} (h : letOk e xs.length ys.length) :
    loOk (lbL e xs ys) ∧ loE (lbL e xs ys) = e ∧ loN (lbL e xs ys) = xs.length ∧ loM (lbL e xs ys) = ys.length ∧ loX (lbL e xs ys) = xs ∧ loY (lbL e xs ys) = ys := by
  have hl : (lbL e xs ys).length = 35 + ys.length := by rw [lbL_length, lbN, if_pos h]
  have e1 := lb_is h
  obtain ⟨h0, h1, h2, h3, h4⟩ := h
  have hok : loOk (lbL e xs ys) := by
    refine ⟨by omega, by omega, ?_⟩
    rw [e1]
    rfl
  refine ⟨hok, ?_, ?_, ?_, ?_, ?_⟩
  · rw [loE, if_pos hok, e1]
    show 256 * (e / 256 % 256) + e % 256 = e
    omega
  · rw [loN, if_pos hok, h2]
  · rw [loM, if_pos hok]
    omega
  · rw [loX, if_pos hok, e1]
    show (xs ++ ys).take 32 = xs
    rw [List.take_append_of_le_length (by omega), List.take_of_length_le (by omega)]
  · rw [loY, if_pos hok, e1]
    show (xs ++ ys).drop 32 = ys
    rw [List.drop_append_of_le_length (by omega), List.drop_of_length_le (by omega)]
    rfl
theorem lb_of_lo {bs : List Int} (h : loOk bs) (hb : ∀ x ∈ bs, 0 ≤ x ∧ x < 256) : letOk (loE bs) (loX bs).length (loY bs).length ∧ lbL (loE bs) (loX bs) (loY bs) = bs ∧ (loX bs).length = loN bs ∧ (loY bs).length = loM bs ∧ lbN (loE bs) (loN bs) (loM bs) = bs.length := by
  have h' := h
  obtain ⟨h1, h2, h3⟩ := h
  obtain ⟨a, b, c, t, rfl⟩ : ∃ a b c t, bs = a :: b :: c :: t := by
    match bs, h1 with
    | a :: b :: c :: t, _ => exact ⟨a, b, c, t, rfl⟩
  have hlt : t.length + 3 = (a :: b :: c :: t).length := by simp
  have e1 : loE (a :: b :: c :: t) = 256 * b + c := by rw [loE, if_pos h']; rfl
  have e2 : loX (a :: b :: c :: t) = t.take 32 := by rw [loX, if_pos h']; rfl
  have e3 : loY (a :: b :: c :: t) = t.drop 32 := by rw [loY, if_pos h']; rfl
  have e4 : loN (a :: b :: c :: t) = 32 := by rw [loN, if_pos h']
  have e5 : loM (a :: b :: c :: t) = t.length - 32 := by rw [loM, if_pos h']; omega
  have ha : a = 1 := h3
  have hbb := hb b (by simp)
  have hcc := hb c (by simp)
  have l1 : (t.take 32).length = 32 := by rw [List.length_take]; omega
  have l2 : (t.drop 32).length = t.length - 32 := List.length_drop
  have hok : letOk (256 * b + c) (t.take 32).length (t.drop 32).length := ⟨by omega, by omega, l1, by omega, by omega⟩
  rw [e1, e2, e3, e4, e5]
  refine ⟨hok, ?_, l1, l2, ?_⟩
  · rw [lb_is hok, List.take_append_drop, ha]
    have x1 : (256 * b + c) / 256 % 256 = b := by omega
    have x2 : (256 * b + c) % 256 = c := by omega
    rw [x1, x2]
  · rw [lbN, if_pos (show letOk (256 * b + c) 32 (t.length - 32) from ⟨by omega, by omega, rfl, by omega, by omega⟩)]
    omega
theorem lo_short {bs : List Int} (h : bs.length < 51) : ¬ loOk bs ∧ loE bs = 0 ∧ loN bs = 0 ∧ loM bs = 0 ∧ loX bs = [] ∧ loY bs = [] := by
  have hn : ¬ loOk bs := fun x => by have := x.1; omega
  exact ⟨hn, if_neg hn, if_neg hn, if_neg hn, if_neg hn, if_neg hn⟩

end Go.Proofs.YtdjdanpicbaieaaDoor
