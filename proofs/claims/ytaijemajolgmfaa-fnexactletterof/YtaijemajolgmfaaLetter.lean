/-
  The laws' own functions of a letter: its size, a copy, whether two are the same, marks; conditions: bytes that lie there.
-/
import Derived.Test.YtaijemajolgmfaaEq
import Derived.Test.YtaijemajolgmfaaTo
import Derived.Test.YtaijemajolgmfaaMarks
import Derived.Test.YtaijemajolgmfaaCopied
namespace Go.Proofs.Ytaijemajolgmfaa
open Go.RowKit

theorem szByteS_any (p : Option Addr) (n c : Nat) (l : Int) (w : World) (hn : n ≤ 9223372036854775807) (hl : 0 ≤ l ∧ l ≤ 1048576) :
    Calls Try.prog 42 #[.slice p n c, .int .i64 l] w fun e w' => e = .returned (.int .i64 (if (n : Int) ≤ l then l - n else -1)) ∧ Below w.heap.size w w' := by
  by_cases h : (n : Int) ≤ l
  · rw [if_pos h]
    go_enter Try.func42, Try.ntmps42
    go_wp2_with (fail)
    go_ret
    exact ⟨rfl, .refl _ _⟩
  · rw [if_neg h]
    go_enter Try.func42, Try.ntmps42
    go_wp2_with (fail)
    go_ret
    exact ⟨rfl, .refl _ _⟩

/-- The cells of a block of one's own. -/
def Cells (w : World) (g : Nat) (A : Array Value) : Prop := g < w.heap.size ∧ ∀ i, w.cell? ⟨g, i, none⟩ = A[i]? ∧ w.frozen? ⟨g, i, none⟩ = false
theorem Cells.made (w : World) (A : Array Value) (T : TypeId) : Cells (w.alloc (.cells A T)) w.heap.size A := by
  have e := heap_made w (.cells A T)
  refine ⟨by simp, fun i => ⟨by simp only [World.cell?, e]; rfl, ?_⟩⟩
  simp only [World.frozen?, e]
  simp
theorem Cells.on {w w' : World} {g : Nat} {A : Array Value} (h : Cells w g A) (b : Below w.heap.size w w') : Cells w' g A :=
  ⟨Nat.lt_of_lt_of_le h.1 b.size, fun i => ⟨(b.cell h.1).trans (h.2 i).1, (b.frozen h.1).trans (h.2 i).2⟩⟩
theorem Cells.other {w : World} {g : Nat} {A : Array Value} (h : Cells w g A) {a : Addr} (v : Value) (ha : g ≠ a.block) : Cells (w.setCell a v) g A := by
  have e := Below.heap_setCell w a v g ha
  refine ⟨by simpa using h.1, fun i => ⟨?_, ?_⟩⟩
  · rw [← (h.2 i).1]; exact World.cell?_of_block (w := w) e
  · rw [← (h.2 i).2]; exact World.frozen?_of_block (w := w) e
theorem Cells.set {w : World} {g : Nat} {A : Array Value} (h : Cells w g A) (k : Nat) (hk : k < A.size) (v : Value) : Cells (w.setCell ⟨g, k, none⟩ v) g (A.setIfInBounds k v) := by
  refine ⟨by simpa using h.1, fun i => ⟨?_, ?_⟩⟩
  · by_cases e : k = i
    · subst e
      rw [World.cell?_setCell_same w _ _ (by rw [(h.2 k).1]; exact Array.getElem?_eq_getElem hk)]
      simp [hk]
    · rw [World.cell?_setCell_other _ _ _ _ (by intro x; simp only [Addr.mk.injEq] at x; omega), (h.2 i).1, Array.getElem?_setIfInBounds_ne e]
  · rw [World.frozen?_setCell]; exact (h.2 i).2
theorem Own.set_below {e : Nat} {w : World} {lo hi : Nat} {v : Value} {n : Nat} {xs : List Int} (h : Own e w lo hi v n xs) {a : Addr} (ha : a.block < lo) (u : Value) : Own e (w.setCell a u) lo hi v n xs := ⟨ownsRow_setCell_below h.1 ha u, h.2⟩
set_option maxHeartbeats 2000000 in
theorem szLetter_small (e : Int) (p q : Option Addr) (n c m d : Nat) (w : World) (hnm : n + m ≤ 1048576) :
    Calls Try.prog 20 #[.agg #[.int .i64 e, .slice p n c, .slice q m d], .int .i64 1048576] w fun e w' => ∃ l : Int, 0 ≤ l ∧ l ≤ 1048576 ∧ e = .returned (.int .i64 l) ∧ Below w.heap.size w w' := by
  go_enter Try.func20, Try.ntmps20
  go_wp2_with (fail)
  refine (szByteS_any p n c 1048576 _ (by omega) (by omega)).mono ?_
  rintro e w1 ⟨rfl, b1⟩
  have C1 := (Cells.made w _ _).on b1
  have k1 := made_below _ _ b1
  clear b1
  rw [if_pos (by omega)]
  obtain ⟨l, hl⟩ : ∃ l : Int, l = 1048576 - (n : Int) := ⟨_, rfl⟩
  rw [← hl]
  have hl0 : 0 ≤ l ∧ l ≤ 1048576 := by omega
  have hl1 : ¬ l < 0 := by omega
  replace hl : Hid (l = 1048576 - (n : Int)) := hl
  have l2 : w1.cell? ⟨w.heap.size, 2, none⟩ = some (.slice q m d) := (C1.2 2).1
  go_wp2_with (fail)
  refine (szByteS_any q m d l _ (by omega) hl0).mono ?_
  rintro e w2 ⟨rfl, b2⟩
  have b3 := below_on k1 b2
  rw [if_pos (by have := hl.out; omega)]
  obtain ⟨k, hk⟩ : ∃ k : Int, k = l - (m : Int) := ⟨_, rfl⟩
  rw [← hk]
  have hk0 : 0 ≤ k ∧ k ≤ 1048576 := by have := hl.out; omega
  have hk1 : ¬ k < 0 := by omega
  clear hk hl
  go_wp2_with (fail)
  go_ret
  exact ⟨k, hk0.1, hk0.2, rfl, b3⟩

set_option maxHeartbeats 2000000 in
theorem szLetter_great (e : Int) (p q : Option Addr) (n c m d : Nat) (w : World) (hn : n ≤ 9223372036854775807) (hm : m ≤ 9223372036854775807) (hnm : ¬ n + m ≤ 1048576) :
    Calls Try.prog 20 #[.agg #[.int .i64 e, .slice p n c, .slice q m d], .int .i64 1048576] w fun e w' => e = .returned (.int .i64 (-1)) ∧ Below w.heap.size w w' := by
  go_enter Try.func20, Try.ntmps20
  go_wp2_with (fail)
  refine (szByteS_any p n c 1048576 _ hn (by omega)).mono ?_
  rintro e w1 ⟨rfl, b1⟩
  have C1 := (Cells.made w _ _).on b1
  have k1 := made_below _ _ b1
  clear b1
  by_cases h : (n : Int) ≤ 1048576
  · rw [if_pos h]
    obtain ⟨l, hl⟩ : ∃ l : Int, l = 1048576 - (n : Int) := ⟨_, rfl⟩
    rw [← hl]
    have hl0 : 0 ≤ l ∧ l ≤ 1048576 := by omega
    have hl1 : ¬ l < 0 := by omega
    replace hl : Hid (l = 1048576 - (n : Int)) := hl
    have l2 : w1.cell? ⟨w.heap.size, 2, none⟩ = some (.slice q m d) := (C1.2 2).1
    go_wp2_with (fail)
    refine (szByteS_any q m d l _ hm hl0).mono ?_
    rintro e w2 ⟨rfl, b2⟩
    have b3 := below_on k1 b2
    rw [if_neg (by have := hl.out; omega)]
    go_wp2_with (fail)
    go_ret
    exact ⟨rfl, b3⟩
  · rw [if_neg h]
    go_wp2_with (fail)
    go_ret
    exact ⟨rfl, k1⟩

set_option maxHeartbeats 2000000 in
theorem toLetter_own (e : Int) (p q : Option Addr) (n c m d : Nat) (xs ys : List Int) (w : World) (hn : n ≤ 1048576) (hm : m ≤ 1048576) (hx : xs.length = n) (hy : ys.length = m) (h : BytesIn w p n xs) (h' : BytesIn w q m ys) :
    Calls Try.prog 22 #[.agg #[.int .i64 e, .slice p n c, .slice q m d]] w fun z w' => ∃ p' c' q' d' mid, z = .returned (.agg #[.int .i64 e, .slice p' n c', .slice q' m d']) ∧
      Own 5 w' w.heap.size mid (.slice p' n c') n xs ∧ Own 5 w' mid w'.heap.size (.slice q' m d') m ys ∧ (w.heap.size ≤ mid ∧ mid ≤ w'.heap.size) ∧ Below w.heap.size w w' := by
  have kA : ∀ o1 o2 o3, Below w.heap.size w (((w.alloc o1).alloc o2).alloc o3) := fun o1 o2 o3 => made_below _ _ (made_below _ _ (made_below _ _ (Below.refl _ _)))
  have sz : ∀ (W : World) o, (W.alloc o).heap.size = W.heap.size + 1 := fun W o => by simp
  go_enter Try.func22, Try.ntmps22
  go_wp2_with (fail)
  refine (toByteS_own p n c xs _ hn hx (in_below h (kA _ _ _))).mono ?_
  rintro z w1 ⟨p1, c1, rfl, r1, b1⟩
  have C0 := (Cells.made w _ _).on (made_below _ _ (made_below _ _ b1))
  have C1 := (Cells.made (w.alloc _) _ _).on (made_below _ _ b1)
  have C2 := (Cells.made ((w.alloc _).alloc _) _ _).on b1
  have k1 := made_below _ _ (made_below _ _ (made_below _ _ b1))
  rw [sz] at C1
  rw [sz, sz] at C2
  rw [sz, sz, sz] at r1
  clear b1 kA sz
  have s1 : w1.cell? ⟨w.heap.size + 1 + 1, 1, none⟩ = some (.slice none 0 0) := (C2.2 1).1
  have f1 := (C2.2 1).2
  obtain ⟨X1, hX1⟩ : ∃ X1, X1 = w1.setCell ⟨w.heap.size + 1 + 1, 1, none⟩ (.slice p1 n c1) := ⟨_, rfl⟩
  have kX : Below w.heap.size w X1 := by rw [hX1]; exact k1.setCell (by show w.heap.size ≤ w.heap.size + 1 + 1; omega) _
  replace C0 := C0.other (a := ⟨w.heap.size + 1 + 1, 1, none⟩) (.slice p1 n c1) (by show w.heap.size ≠ w.heap.size + 1 + 1; omega)
  replace C1 := C1.other (a := ⟨w.heap.size + 1 + 1, 1, none⟩) (.slice p1 n c1) (by show w.heap.size + 1 ≠ w.heap.size + 1 + 1; omega)
  replace C2 := C2.set 1 (by simp) (.slice p1 n c1)
  have rX := r1.set_below (a := ⟨w.heap.size + 1 + 1, 1, none⟩) (by show w.heap.size + 1 + 1 < _; omega) (.slice p1 n c1)
  rw [← hX1] at C0 C1 C2 rX
  have zX : X1.heap.size = w1.heap.size := by rw [hX1]; simp
  have l2 : X1.cell? ⟨w.heap.size, 2, none⟩ = some (.slice q m d) := (C0.2 2).1
  replace hX1 : Hid (w1.setCell ⟨w.heap.size + 1 + 1, 1, none⟩ (.slice p1 n c1) = X1) := hX1.symm
  clear r1 k1 C0
  go_wp2_with (rw [hX1.out])
  refine (toByteS_own q m d ys _ hm hy (in_below h' kX)).mono ?_
  rintro z w2 ⟨p2, c2, rfl, r2, b2⟩
  have hg := C2.1
  replace C1 := C1.on b2
  replace C2 := C2.on b2
  replace rX := rX.on b2
  have k2 := below_on kX b2
  have hmid : Hid (w.heap.size ≤ w1.heap.size ∧ w1.heap.size ≤ w2.heap.size) := by
    have e1 := kX.size
    have e2 := b2.size
    exact ⟨by omega, by omega⟩
  clear b2 kX s1 f1 l2 hX1
  have s2 : w2.cell? ⟨w.heap.size + 1 + 1, 2, none⟩ = some (.slice none 0 0) := (C2.2 2).1
  have f2 := (C2.2 2).2
  obtain ⟨X2, hX2⟩ : ∃ X2, X2 = w2.setCell ⟨w.heap.size + 1 + 1, 2, none⟩ (.slice p2 m c2) := ⟨_, rfl⟩
  have kY : Below w.heap.size w X2 := by rw [hX2]; exact k2.setCell (by show w.heap.size ≤ w.heap.size + 1 + 1; omega) _
  replace C1 := C1.other (a := ⟨w.heap.size + 1 + 1, 2, none⟩) (.slice p2 m c2) (by show w.heap.size + 1 ≠ w.heap.size + 1 + 1; omega)
  replace C2 := C2.set 2 (by simp) (.slice p2 m c2)
  replace rX := rX.set_below (a := ⟨w.heap.size + 1 + 1, 2, none⟩) (by show w.heap.size + 1 + 1 < _; omega) (.slice p2 m c2)
  have rY := r2.set_below (a := ⟨w.heap.size + 1 + 1, 2, none⟩) (by show w.heap.size + 1 + 1 < _; omega) (.slice p2 m c2)
  rw [← hX2] at C1 C2 rX rY
  have m0 : X2.cell? ⟨w.heap.size + 1 + 1, 0, none⟩ = some (.int .i64 e) := (C2.2 0).1
  have m1 : X2.cell? ⟨w.heap.size + 1 + 1, 1, none⟩ = some (.slice p1 n c1) := (C2.2 1).1
  have m2 : X2.cell? ⟨w.heap.size + 1 + 1, 2, none⟩ = some (.slice p2 m c2) := (C2.2 2).1
  replace hX2 : Hid (w2.setCell ⟨w.heap.size + 1 + 1, 2, none⟩ (.slice p2 m c2) = X2) := hX2.symm
  have n0 : X2.cell? ⟨w.heap.size + 1, 0, none⟩ = some (.int .i64 0) := (C1.2 0).1
  have z0 := (C1.2 0).2
  have D1 := C1.set 0 (by simp) (.int .i64 e)
  have n1 : (X2.setCell ⟨w.heap.size + 1, 0, none⟩ (.int .i64 e)).cell? ⟨w.heap.size + 1, 1, none⟩ = some (.slice none 0 0) := (D1.2 1).1
  have z1 := (D1.2 1).2
  have D2 := D1.set 1 (by simp) (.slice p1 n c1)
  have n2 : ((X2.setCell ⟨w.heap.size + 1, 0, none⟩ (.int .i64 e)).setCell ⟨w.heap.size + 1, 1, none⟩ (.slice p1 n c1)).cell? ⟨w.heap.size + 1, 2, none⟩ = some (.slice none 0 0) := (D2.2 2).1
  have z2 := (D2.2 2).2
  have D3 := D2.set 2 (by simp) (.slice p2 m c2)
  obtain ⟨X3, hX3⟩ : ∃ X3, X3 = ((X2.setCell ⟨w.heap.size + 1, 0, none⟩ (.int .i64 e)).setCell ⟨w.heap.size + 1, 1, none⟩ (.slice p1 n c1)).setCell ⟨w.heap.size + 1, 2, none⟩ (.slice p2 m c2) := ⟨_, rfl⟩
  have kZ : Below w.heap.size w X3 := by rw [hX3]; exact ((kY.setCell (by show w.heap.size ≤ w.heap.size + 1; omega) _).setCell (by show w.heap.size ≤ w.heap.size + 1; omega) _).setCell (by show w.heap.size ≤ w.heap.size + 1; omega) _
  replace rX := ((rX.set_below (a := ⟨w.heap.size + 1, 0, none⟩) (by show w.heap.size + 1 < _; omega) (.int .i64 e)).set_below (a := ⟨w.heap.size + 1, 1, none⟩) (by show w.heap.size + 1 < _; omega) (.slice p1 n c1)).set_below (a := ⟨w.heap.size + 1, 2, none⟩) (by show w.heap.size + 1 < _; omega) (.slice p2 m c2)
  replace rY := ((rY.set_below (a := ⟨w.heap.size + 1, 0, none⟩) (by show w.heap.size + 1 < _; omega) (.int .i64 e)).set_below (a := ⟨w.heap.size + 1, 1, none⟩) (by show w.heap.size + 1 < _; omega) (.slice p1 n c1)).set_below (a := ⟨w.heap.size + 1, 2, none⟩) (by show w.heap.size + 1 < _; omega) (.slice p2 m c2)
  rw [← hX3] at D3 rX rY
  have y0 : X3.cell? ⟨w.heap.size + 1, 0, none⟩ = some (.int .i64 e) := (D3.2 0).1
  have y1 : X3.cell? ⟨w.heap.size + 1, 1, none⟩ = some (.slice p1 n c1) := (D3.2 1).1
  have y2 : X3.cell? ⟨w.heap.size + 1, 2, none⟩ = some (.slice p2 m c2) := (D3.2 2).1
  have zz : w2.heap.size = X3.heap.size := by rw [hX3, ← hX2.out]; simp
  replace hX3 : Hid (((X2.setCell ⟨w.heap.size + 1, 0, none⟩ (.int .i64 e)).setCell ⟨w.heap.size + 1, 1, none⟩ (.slice p1 n c1)).setCell ⟨w.heap.size + 1, 2, none⟩ (.slice p2 m c2) = X3) := hX3.symm
  replace zz : Hid (w2.heap.size = X3.heap.size) := zz
  replace zX : Hid (X1.heap.size = w1.heap.size) := zX
  clear r2 k2 D1 D2 C1 C2
  go_wp2_with (first | rw [hX2.out] | rw [hX3.out])
  refine bodyPost_ret (v := .agg #[.int .i64 e, .slice p1 n c1, .slice p2 m c2]) ?_ rfl ⟨_, _, _, _, w1.heap.size, rfl, ⟨owns_mono rX.1 (by omega), rX.2⟩, ?_, ⟨hmid.out.1, by have := hmid.out.2; have := zz.out; omega⟩, kZ⟩
  · simp only [results, Try.f22]
    go_simp
  · have e1 := zX.out
    have e2 := zz.out
    rw [← e2]
    exact ⟨owns_mono rY.1 (by omega), rY.2⟩

set_option maxHeartbeats 2000000 in
theorem eqLetter_any (e e' : Int) (p q p' q' : Option Addr) (n c m d n' c' m' d' : Nat) (xs ys xs' ys' : List Int) (w : World) (hn : n ≤ 9223372036854775807) (hm : m ≤ 9223372036854775807) (hx : xs.length = n) (hy : ys.length = m) (hx' : xs'.length = n') (hy' : ys'.length = m')
    (h1 : BytesIn w p n xs) (h2 : BytesIn w q m ys) (h3 : BytesIn w p' n' xs') (h4 : BytesIn w q' m' ys') :
    Calls Try.prog 24 #[.agg #[.int .i64 e, .slice p n c, .slice q m d], .agg #[.int .i64 e', .slice p' n' c', .slice q' m' d']] w fun z w' => z = .returned (.bool (decide (e = e' ∧ xs = xs' ∧ ys = ys'))) ∧ Below w.heap.size w w' := by
  have kA : ∀ o1 o2, Below w.heap.size w ((w.alloc o1).alloc o2) := fun o1 o2 => made_below _ _ (made_below _ _ (Below.refl _ _))
  have sz : ∀ (W : World) o, (W.alloc o).heap.size = W.heap.size + 1 := fun W o => by simp
  obtain ⟨R, hR⟩ : ∃ R : Bool, R = decide (e = e' ∧ xs = xs' ∧ ys = ys') := ⟨_, rfl⟩
  rw [← hR]
  replace hR : Hid (R = decide (e = e' ∧ xs = xs' ∧ ys = ys')) := hR
  by_cases he : e = e'
  · subst he
    go_enter Try.func24, Try.ntmps24
    go_wp2_with (fail)
    refine (eqByteS_any p p' n n' c c' xs xs' _ hn hx hx' (in_below h1 (kA _ _)) (in_below h3 (kA _ _))).mono ?_
    rintro z w1 ⟨rfl, b1⟩
    have C0 := (Cells.made w _ _).on (made_below _ _ b1)
    have C1 := (Cells.made (w.alloc _) _ _).on b1
    have k1 := made_below _ _ (made_below _ _ b1)
    rw [sz] at C1
    clear b1 kA sz
    by_cases hxx : xs = xs'
    · rw [decide_eq_true hxx]
      have l1 : w1.cell? ⟨w.heap.size, 2, none⟩ = some (.slice q m d) := (C0.2 2).1
      have l2 : w1.cell? ⟨w.heap.size + 1, 2, none⟩ = some (.slice q' m' d') := (C1.2 2).1
      replace hxx : Hid (xs = xs') := hxx
      go_wp2_with (fail)
      refine (eqByteS_any q q' m m' d d' ys ys' _ hm hy hy' (in_below h2 k1) (in_below h4 k1)).mono ?_
      rintro z w2 ⟨rfl, b2⟩
      have b3 := below_on k1 b2
      by_cases hyy : ys = ys'
      · have hr : R = true := by rw [hR.out]; simp [hxx.out, hyy]
        rw [decide_eq_true hyy]
        clear hyy
        go_wp2_with (fail)
        go_ret
        exact ⟨by rw [hr]; rfl, b3⟩
      · have hr : R = false := hR.out.trans (decide_eq_false fun k => hyy k.2.2)
        rw [decide_eq_false hyy]
        clear hyy
        go_wp2_with (fail)
        go_ret
        exact ⟨by rw [hr]; rfl, b3⟩
    · have hr : R = false := hR.out.trans (decide_eq_false fun k => hxx k.2.1)
      rw [decide_eq_false hxx]
      clear hxx
      go_wp2_with (fail)
      go_ret
      exact ⟨by rw [hr]; rfl, k1⟩
  · have hr : R = false := hR.out.trans (decide_eq_false fun k => he k.1)
    have hd : (e != e') = true := by simpa using he
    have k0 := kA (.cells #[.int .i64 e, .slice p n c, .slice q m d] 33) (.cells #[.int .i64 e', .slice p' n' c', .slice q' m' d'] 33)
    go_enter Try.func24, Try.ntmps24
    go_wp2_with (fail)
    go_ret
    exact ⟨by rw [hr]; rfl, k0⟩

theorem Cells.grown {w w' : World} {g : Nat} {A : Array Value} {r : Option Nat} (h : Cells w g A) (hg : w.grownBy w' r) (hr : some g ≠ r) : Cells w' g A := by
  have e := hg.block g h.1 hr
  exact ⟨Nat.lt_of_lt_of_le h.1 hg.size, fun i => ⟨(World.cell?_of_block (w := w) e).trans (h.2 i).1, (World.frozen?_of_block (w := w) e).trans (h.2 i).2⟩⟩

set_option maxHeartbeats 2000000 in
/-- Both rows of a letter, marked, one behind the other. -/
theorem markLetter_own (lo hi lo' hi' : Nat) (e : Int) (p q : Option Addr) (n c m d : Nat) (xs ys : List Int) (k : Int) (w : World) (hn : n ≤ 1048576) (hm : m ≤ 1048576) (hk : 0 ≤ k) (hk2 : k ≤ 1048576) (hd : hi ≤ lo' ∨ hi' ≤ lo) (h0 : hi ≤ w.heap.size)
    (h : Own 5 w lo hi (.slice p n c) n xs) (h' : Own 5 w lo' hi' (.slice q m d) m ys) :
    Calls Try.prog 27 #[.agg #[.int .i64 e, .slice p n c, .slice q m d], .int .i64 k] w fun z w' => z = .returned (.int .i64 (k + n + m)) ∧ ∃ wa w1, Below w.heap.size w wa ∧ wa.grownBy w1 (Value.ownBlock (.slice p n c)) ∧ w1.grownBy w' (Value.ownBlock (.slice q m d)) ∧
      Own 5 w' lo hi (.slice p n c) n (marks k n) ∧ Own 5 w' lo' hi' (.slice q m d) m (marks (k + n) m) := by
  have kA : ∀ o, Below w.heap.size w (w.alloc o) := fun o => made_below _ _ (Below.refl _ _)
  go_enter Try.func27, Try.ntmps27
  go_wp2_with (fail)
  refine (markByteS_own lo hi p n c xs k _ (by omega) hk (by omega) (h.on (kA _))).mono ?_
  rintro z w1 ⟨rfl, r1, g1⟩
  have C1 := (Cells.made w _ _).grown g1 (fun x => by have := h.2 _ x.symm; omega)
  have r2 := (h'.on (kA _)).far g1 (h.on (kA _)) hd.symm
  have l2 : w1.cell? ⟨w.heap.size, 2, none⟩ = some (.slice q m d) := (C1.2 2).1
  obtain ⟨k', hk'⟩ : ∃ k' : Int, k' = k + n := ⟨_, rfl⟩
  have b1 : 0 ≤ k' ∧ k' ≤ 1099511627776 := by omega
  rw [← hk']
  replace hk' : Hid (k' = k + n) := hk'
  go_wp2_with (fail)
  refine (markByteS_own lo' hi' q m d ys k' _ (by omega) b1.1 b1.2 r2).mono ?_
  rintro z w2 ⟨rfl, r3, g2⟩
  have r4 := r1.far g2 r2 hd
  go_wp2_with (fail)
  go_ret
  rw [← hk'.out]
  exact ⟨rfl, _, w1, kA _, g1, g2, r4, r3⟩

set_option maxHeartbeats 2000000 in
theorem heldLetter_any (e : Int) (p q : Option Addr) (n c m d : Nat) (k : Int) (w : World) (hn : n ≤ 1048576) (hm : m ≤ 1048576) (hk : 0 ≤ k) (hk2 : k ≤ 1048576) (h : BytesIn w p n (marks k n)) (h' : BytesIn w q m (marks (k + n) m)) :
    Calls Try.prog 30 #[.agg #[.int .i64 e, .slice p n c, .slice q m d], .int .i64 k] w fun z w' => z = .returned (.int .i64 (k + n + m)) ∧ Below w.heap.size w w' := by
  have kA : ∀ o, Below w.heap.size w (w.alloc o) := fun o => made_below _ _ (Below.refl _ _)
  go_enter Try.func30, Try.ntmps30
  go_wp2_with (fail)
  refine (heldByteS_any p n c k _ (by omega) hk (by omega) (in_below h (kA _))).mono ?_
  rintro z w1 ⟨rfl, b1⟩
  have C1 := (Cells.made w _ _).on b1
  have k1 := made_below _ _ b1
  clear b1 kA
  have l2 : w1.cell? ⟨w.heap.size, 2, none⟩ = some (.slice q m d) := (C1.2 2).1
  obtain ⟨k', hk'⟩ : ∃ k' : Int, k' = k + n := ⟨_, rfl⟩
  have b1 : 0 ≤ k' ∧ k' ≤ 1099511627776 := by omega
  have b0 : ¬ k' < 0 := by omega
  rw [← hk'] at h' ⊢
  replace hk' : Hid (k' = k + n) := hk'
  go_wp2_with (fail)
  refine (heldByteS_any q m d k' _ (by omega) b1.1 b1.2 (in_below h' k1)).mono ?_
  rintro z w2 ⟨rfl, b2⟩
  have b3 := below_on k1 b2
  obtain ⟨k2, hk2⟩ : ∃ k2 : Int, k2 = k' + m := ⟨_, rfl⟩
  have b4 : ¬ k2 < 0 := by omega
  rw [← hk2]
  replace hk2 : Hid (k2 = k' + m) := hk2
  go_wp2_with (fail)
  go_ret
  rw [← hk'.out, ← hk2.out]
  exact ⟨rfl, b3⟩

/-- What a letter's marking leaves of a row that lies elsewhere. -/
theorem Own.past {e' : Nat} {w wa w1 w' : World} {lo hi lo' hi' lo0 hi0 : Nat} {u v v' : Value} {n m k : Nat} {xs ys zs : List Int} (h : Own e' w lo0 hi0 u k zs) (b : Below w.heap.size w wa) (g1 : wa.grownBy w1 v.ownBlock) (g2 : w1.grownBy w' v'.ownBlock)
    (hp : Own e' w lo hi v n xs) (hq : Own e' w lo' hi' v' m ys) (hd : hi ≤ lo' ∨ hi' ≤ lo) (d1 : hi0 ≤ lo ∨ hi ≤ lo0) (d2 : hi0 ≤ lo' ∨ hi' ≤ lo0) : Own e' w' lo0 hi0 u k zs :=
  ((h.on b).far g1 (hp.on b) d1).far g2 ((hq.on b).far g1 (hp.on b) hd.symm) d2
theorem marks_below {e' : Nat} {a w wa w1 w' : World} {lo hi lo' hi' : Nat} {v v' : Value} {n m : Nat} {xs ys : List Int} (h : Below a.heap.size a w) (b : Below w.heap.size w wa) (g1 : wa.grownBy w1 v.ownBlock) (g2 : w1.grownBy w' v'.ownBlock)
    (hp : Own e' w lo hi v n xs) (hq : Own e' w lo' hi' v' m ys) (hd : hi ≤ lo' ∨ hi' ≤ lo) (h1 : a.heap.size ≤ lo) (h2 : a.heap.size ≤ lo') : Below a.heap.size a w' :=
  below_mark (below_mark (below_on h b) g1 (hp.on b) h1) g2 ((hq.on b).far g1 (hp.on b) hd.symm) h2
theorem Cells.far {e' : Nat} {w w' : World} {g lo hi : Nat} {u : Value} {m : Nat} {ys : List Int} {A : Array Value} (h : Cells w g A) (hg : w.grownBy w' u.ownBlock) (hu : Own e' w lo hi u m ys) (hd : g < lo ∨ hi ≤ g) : Cells w' g A :=
  h.grown hg fun x => by have h1 := hu.2 g x.symm; have h2 := (hu.1.lt g x.symm).1; omega
theorem Cells.past {e' : Nat} {w wa w1 w' : World} {g lo hi lo' hi' : Nat} {v v' : Value} {n m : Nat} {xs ys : List Int} {A : Array Value} (h : Cells w g A) (b : Below w.heap.size w wa) (g1 : wa.grownBy w1 v.ownBlock) (g2 : w1.grownBy w' v'.ownBlock)
    (hp : Own e' w lo hi v n xs) (hq : Own e' w lo' hi' v' m ys) (hd : hi ≤ lo' ∨ hi' ≤ lo) (d1 : g < lo ∨ hi ≤ g) (d2 : g < lo' ∨ hi' ≤ g) : Cells w' g A :=
  ((h.on b).far g1 (hp.on b) d1).far g2 ((hq.on b).far g1 (hp.on b) hd.symm) d2
theorem marks_size {w wa w1 w' : World} {r r' : Option Nat} (b : Below w.heap.size w wa) (g1 : wa.grownBy w1 r) (g2 : w1.grownBy w' r') : w.heap.size ≤ w'.heap.size := Nat.le_trans b.size (Nat.le_trans g1.size g2.size)

end Go.Proofs.Ytaijemajolgmfaa
