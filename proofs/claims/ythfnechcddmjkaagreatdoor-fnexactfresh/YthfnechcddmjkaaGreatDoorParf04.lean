/-
  Lists of rows of bytes that come in as arguments, and what the laws' own functions do with them: how much they hold, a copy, whether two say the same. Conditions: rows that can be read.
  The laws' own functions of an item: its size, a copy, whether two are the same; conditions: bytes that lie there.
  The laws' own functions of a reader: how much it holds, a copy, whether two say the same. Conditions: a reader that can be read.
-/
import Derived.Test.YthfnechcddmjkaaGreatDoorParf02
import Derived.Test.YthfnechcddmjkaaGreatDoorParf03
import Derived.Deep.RegionHeld3
namespace Go.Proofs.YthfnechcddmjkaaGreatDoor
open Go.RowKit
set_option maxRecDepth 100000

structure RwA where
  p : Option Addr
  n : Nat
  c : Nat
  xs : List Int
instance : Inhabited RwA := ⟨⟨none, 0, 0, []⟩⟩
def RwA.val (x : RwA) : Value := .slice x.p x.n x.c
structure RwA.Ok (w : World) (x : RwA) : Prop where
  hn : x.n ≤ 9223372036854775807
  len : x.xs.length = x.n
  bytes : BytesIn w x.p x.n x.xs
  byte : ∀ y ∈ x.xs, 0 ≤ y ∧ y < 256
theorem RwA.Ok.on {w w' : World} {x : RwA} (h : x.Ok w) (b : Below w.heap.size w w') : x.Ok w' := ⟨h.hn, h.len, in_below h.bytes b, h.byte⟩
def RowsIn (w : World) (p : Option Addr) (n : Nat) (rs : List RwA) : Prop :=
  0 < n → ∃ b o, p = some ⟨b, o, none⟩ ∧ ∀ i, i < n → w.cell? ⟨b, o + i, none⟩ = some (rs.getD i default).val
theorem rowsIn_on {w w' : World} {p : Option Addr} {n : Nat} {rs : List RwA} (h : RowsIn w p n rs) (hb : Below w.heap.size w w') : RowsIn w' p n rs := by
  intro hn
  obtain ⟨b, o, rfl, hc⟩ := h hn
  refine ⟨b, o, rfl, fun i hi => ?_⟩
  have hlt : b < w.heap.size := World.block_lt_of_cell? w ⟨b, o + i, none⟩ (hc i hi)
  rw [hb.cell (p := ⟨b, o + i, none⟩) hlt]
  exact hc i hi
structure Rows (w : World) (p : Option Addr) (n : Nat) (rs : List RwA) : Prop where
  hn : n ≤ 9223372036854775807
  len : rs.length = n
  lie : RowsIn w p n rs
  ok : ∀ x ∈ rs, x.Ok w
theorem Rows.on {w w' : World} {p : Option Addr} {n : Nat} {rs : List RwA} (h : Rows w p n rs) (b : Below w.heap.size w w') : Rows w' p n rs := ⟨h.hn, h.len, rowsIn_on h.lie b, fun x hx => (h.ok x hx).on b⟩
theorem Rows.nil (w : World) (p : Option Addr) : Rows w p 0 [] := ⟨by omega, rfl, fun h => absurd h (Nat.lt_irrefl 0), fun x hx => by simp at hx⟩

theorem getD_memR {α : Type} [Inhabited α] {l : List α} {k : Nat} (h : k < l.length) : l.getD k default ∈ l := by
  rw [List.getD_eq_getElem?_getD, List.getElem?_eq_getElem h]; exact List.getElem_mem _
theorem Rows.at {w : World} {p : Option Addr} {n : Nat} {rs : List RwA} (h : Rows w p n rs) {k : Nat} (hk : k < n) : ∃ b o x, p = some ⟨b, o, none⟩ ∧ w.cell? ⟨b, o + k, none⟩ = some (.slice x.p x.n x.c) ∧ rs.getD k default = x ∧ x.Ok w := by
  obtain ⟨b, o, e, hc⟩ := h.lie (by omega)
  exact ⟨b, o, _, e, hc k hk, rfl, h.ok _ (getD_memR (by rw [h.len]; exact hk))⟩

def FromR (lo : Nat) (p : Option Addr) (n : Nat) (rs : List RwA) : Prop := (0 < n → ∃ b o, p = some ⟨b, o, none⟩ ∧ lo ≤ b) ∧ ∀ x ∈ rs, 0 < x.n → ∃ b o, x.p = some ⟨b, o, none⟩ ∧ lo ≤ b
theorem FromR.mono {lo lo' : Nat} {p : Option Addr} {n : Nat} {rs : List RwA} (h : FromR lo p n rs) (hl : lo' ≤ lo) : FromR lo' p n rs :=
  ⟨fun k => let ⟨b, o, e, hb⟩ := h.1 k; ⟨b, o, e, Nat.le_trans hl hb⟩, fun x hx k => let ⟨b, o, e, hb⟩ := h.2 x hx k; ⟨b, o, e, Nat.le_trans hl hb⟩⟩
theorem in_set {w : World} {p : Option Addr} {n lo : Nat} {xs : List Int} (h : BytesIn w p n xs) (f : 0 < n → ∃ b o, p = some ⟨b, o, none⟩ ∧ lo ≤ b) {a : Addr} (ha : a.block < lo) (v : Value) : BytesIn (w.setCell a v) p n xs := by
  intro hn
  obtain ⟨b, o, rfl, hc⟩ := h hn
  obtain ⟨b', o', e, hb⟩ := f hn
  simp only [Option.some.injEq, Addr.mk.injEq, and_true] at e
  obtain ⟨rfl, rfl⟩ := e
  refine ⟨b, o, rfl, fun i hi => ?_⟩
  rw [World.cell?_setCell_other _ _ _ _ (by intro x; rw [x] at ha; simp only at ha; omega)]
  exact hc i hi
theorem Rows.set {w : World} {p : Option Addr} {n lo : Nat} {rs : List RwA} (h : Rows w p n rs) (f : FromR lo p n rs) {a : Addr} (ha : a.block < lo) (v : Value) : Rows (w.setCell a v) p n rs := by
  refine ⟨h.hn, h.len, fun hn => ?_, fun x hx => ?_⟩
  · obtain ⟨b, o, rfl, hc⟩ := h.lie hn
    obtain ⟨b', o', e, hb⟩ := f.1 hn
    simp only [Option.some.injEq, Addr.mk.injEq, and_true] at e
    obtain ⟨rfl, rfl⟩ := e
    refine ⟨b, o, rfl, fun i hi => ?_⟩
    rw [World.cell?_setCell_other _ _ _ _ (by intro x; rw [x] at ha; simp only at ha; omega)]
    exact hc i hi
  · have k := h.ok x hx
    exact ⟨k.hn, k.len, in_set k.bytes (f.2 x hx) ha v, k.byte⟩

theorem szByteS_any (p : Option Addr) (n c : Nat) (l : Int) (w : World) (hn : n ≤ 9223372036854775807) (hl : 0 ≤ l ∧ l ≤ 1048576) :
    Calls Tryz.prog 36 #[.slice p n c, .int .i64 l] w fun e w' => e = .returned (.int .i64 (if (n : Int) ≤ l then l - n else -1)) ∧ Below w.heap.size w w' := by
  by_cases h : (n : Int) ≤ l
  · rw [if_pos h]
    go_enter Tryz.func36, Tryz.ntmps36
    go_wp2_with (fail)
    go_ret
    exact ⟨rfl, .refl _ _⟩
  · rw [if_neg h]
    go_enter Tryz.func36, Tryz.ntmps36
    go_wp2_with (fail)
    go_ret
    exact ⟨rfl, .refl _ _⟩

def totR (rs : List RwA) : Nat := (rs.map fun x => x.n).sum
def szR (n : Nat) (rs : List RwA) (l : Int) : Int := if (n : Int) + totR rs ≤ l then l - n - totR rs else -1

def Behind (w : World) (g : Nat) (x : RwA) : Prop := Own 5 w (g + 1) w.heap.size x.val x.n x.xs
theorem Behind.set {w : World} {g : Nat} {x : RwA} (h : Behind w g x) (i : Nat) (v : Value) : Behind (w.setCell ⟨g, i, none⟩ v) g x := by
  have hs : (w.setCell ⟨g, i, none⟩ v).heap.size = w.heap.size := by simp [World.setCell]
  refine ⟨h.1.kept (set_grown w g i v) ?_, fun k hk => by rw [hs]; exact h.2 k hk⟩
  rcases hb : x.val.ownBlock with _ | k
  · exact .inl rfl
  · right
    intro e
    cases e
    have := (h.1.lt g hb).1
    omega
theorem Behind.on {w w' : World} {g : Nat} {x : RwA} (h : Behind w g x) (b : Below w.heap.size w w') : Behind w' g x := ⟨owns_below h.1 b, fun k hk => Nat.lt_of_lt_of_le (h.2 k hk) b.size⟩

end Go.Proofs.YthfnechcddmjkaaGreatDoor

namespace Go.Proofs.YthfnechcddmjkaaGreatDoor
open Go.RowKit
set_option maxRecDepth 100000

theorem below_drewL {a w : World} (h : Below a.heap.size a w) : Below a.heap.size a w.drew := h.drew

theorem str_ne {s s' : ByteArray} (h : s ≠ s') : (s.toList == s'.toList) = false := by
  rw [beq_eq_false_iff_ne]
  intro e
  rw [ByteArray.toList_eq, ByteArray.toList_eq] at e
  exact h (ByteArray.ext (Array.toList_inj.1 e))

def szI (s : ByteArray) (n : Nat) (l : Int) : Int := if (s.size : Int) + n ≤ l then l - s.size - n else -1

set_option maxHeartbeats 2000000 in
theorem szItem_any (s : ByteArray) (t d : Int) (p : Option Addr) (n c : Nat) (l : Int) (w : World) (hs : s.size ≤ 9223372036854775807) (hn : n ≤ 9223372036854775807) (hl : 0 ≤ l ∧ l ≤ 1048576) :
    Calls Tryz.prog 112 #[.agg #[.string s, .int .i64 t, .int .i64 d, .slice p n c], .int .i64 l] w fun e w' => e = .returned (.int .i64 (szI s n l)) ∧ Below w.heap.size w w' := by
  have kA : ∀ o, Below w.heap.size w (w.alloc o) := fun o => made_below _ _ (Below.refl _ _)
  have hM : ∀ o, Cells (w.alloc (.cells #[.string s, .int .i64 t, .int .i64 d, .slice p n c] o)) w.heap.size #[.string s, .int .i64 t, .int .i64 d, .slice p n c] := fun o => Cells.made _ _ _
  by_cases h : (s.size : Int) ≤ l
  · obtain ⟨k, hk⟩ : ∃ k : Int, k = l - s.size := ⟨_, rfl⟩
    have hk0 : 0 ≤ k ∧ k ≤ 1048576 := by omega
    have hk1 : ¬ k < 0 := by omega
    have e : szI s n l = if (n : Int) ≤ k then k - n else -1 := by
      unfold szI
      by_cases hh : (n : Int) ≤ k
      · rw [if_pos hh, if_pos (by omega)]; omega
      · rw [if_neg hh, if_neg (by omega)]
    rw [e]
    have e1 : l - (s.size : Int) = k := hk.symm
    clear hk e
    by_cases hh : (n : Int) ≤ k
    · rw [if_pos hh]
      obtain ⟨m, hm⟩ : ∃ m : Int, m = k - n := ⟨_, rfl⟩
      have hm1 : ¬ m < 0 := by omega
      have C := fun X => szByteS_any p n c k X hn hk0
      rw [if_pos hh] at C
      rw [← hm] at C ⊢
      clear hm hh
      go_enter Tryz.func112, Tryz.ntmps112
      go_wp2_with (fail)
      refine (C _).mono ?_
      rintro e w1 ⟨rfl, b1⟩
      have k1 := made_below _ _ b1
      clear b1
      go_wp2_with (fail)
      go_ret
      exact ⟨rfl, k1⟩
    · rw [if_neg hh]
      have C := fun X => szByteS_any p n c k X hn hk0
      rw [if_neg hh] at C
      clear hh
      go_enter Tryz.func112, Tryz.ntmps112
      go_wp2_with (fail)
      refine (C _).mono ?_
      rintro e w1 ⟨rfl, b1⟩
      have k1 := made_below _ _ b1
      clear b1
      go_wp2_with (fail)
      go_ret
      exact ⟨rfl, k1⟩
  · have e : szI s n l = -1 := by unfold szI; rw [if_neg (by omega)]
    rw [e]
    clear e
    obtain ⟨k, hk⟩ : ∃ k : Int, k = l - s.size := ⟨_, rfl⟩
    have hk1 : k < 0 := by omega
    have e1 : l - (s.size : Int) = k := hk.symm
    clear hk
    go_enter Tryz.func112, Tryz.ntmps112
    go_wp2_with (fail)
    go_ret
    exact ⟨rfl, kA _⟩

set_option maxHeartbeats 2000000 in
theorem toItem_own (s : ByteArray) (t d : Int) (p : Option Addr) (n c : Nat) (xs : List Int) (w : World) (hn : n ≤ 1048576) (hx : xs.length = n) (h : BytesIn w p n xs) :
    Calls Tryz.prog 114 #[.agg #[.string s, .int .i64 t, .int .i64 d, .slice p n c]] w fun z w' => ∃ p' c', z = .returned (.agg #[.string s, .int .i64 t, .int .i64 d, .slice p' n c']) ∧
      Own 5 w' w.heap.size w'.heap.size (.slice p' n c') n xs ∧ Below w.heap.size w w' := by
  have kA : ∀ o1 o2 o3, Below w.heap.size w (((w.alloc o1).alloc o2).alloc o3) := fun o1 o2 o3 => made_below _ _ (made_below _ _ (made_below _ _ (Below.refl _ _)))
  have sz : ∀ (W : World) o, (W.alloc o).heap.size = W.heap.size + 1 := fun W o => by simp
  go_enter Tryz.func114, Tryz.ntmps114
  go_wp2_with (fail)
  refine (toByteS_own p n c xs _ hn hx (in_below h (kA _ _ _))).mono ?_
  rintro z w1 ⟨p1, c1, rfl, r1, b1⟩
  have C1 := (Cells.made (w.alloc _) _ _).on (made_below _ _ b1)
  have C2 := (Cells.made ((w.alloc _).alloc _) _ _).on b1
  have k1 := made_below _ _ (made_below _ _ (made_below _ _ b1))
  rw [sz] at C1
  rw [sz, sz] at C2
  rw [sz, sz, sz] at r1
  clear b1 kA sz
  have s1 : w1.cell? ⟨w.heap.size + 1 + 1, 3, none⟩ = some (.slice none 0 0) := (C2.2 3).1
  have f1 := (C2.2 3).2
  obtain ⟨X1, hX1⟩ : ∃ X1, X1 = w1.setCell ⟨w.heap.size + 1 + 1, 3, none⟩ (.slice p1 n c1) := ⟨_, rfl⟩
  have kX : Below w.heap.size w X1 := by rw [hX1]; exact k1.setCell (by show w.heap.size ≤ w.heap.size + 1 + 1; omega) _
  replace C1 := C1.other (a := ⟨w.heap.size + 1 + 1, 3, none⟩) (.slice p1 n c1) (by show w.heap.size + 1 ≠ w.heap.size + 1 + 1; omega)
  replace C2 := C2.set 3 (by simp) (.slice p1 n c1)
  have rX := r1.set_below (a := ⟨w.heap.size + 1 + 1, 3, none⟩) (by show w.heap.size + 1 + 1 < _; omega) (.slice p1 n c1)
  rw [← hX1] at C1 C2 rX
  have zX : X1.heap.size = w1.heap.size := by rw [hX1]; simp
  have m0 : X1.cell? ⟨w.heap.size + 1 + 1, 0, none⟩ = some (.string s) := (C2.2 0).1
  have m1 : X1.cell? ⟨w.heap.size + 1 + 1, 1, none⟩ = some (.int .i64 t) := (C2.2 1).1
  have m2 : X1.cell? ⟨w.heap.size + 1 + 1, 2, none⟩ = some (.int .i64 d) := (C2.2 2).1
  have m3 : X1.cell? ⟨w.heap.size + 1 + 1, 3, none⟩ = some (.slice p1 n c1) := (C2.2 3).1
  replace hX1 : Hid (w1.setCell ⟨w.heap.size + 1 + 1, 3, none⟩ (.slice p1 n c1) = X1) := hX1.symm
  have n0 : X1.cell? ⟨w.heap.size + 1, 0, none⟩ = some (.string ByteArray.empty) := (C1.2 0).1
  have z0 := (C1.2 0).2
  have D1 := C1.set 0 (by simp) (.string s)
  have n1 : (X1.setCell ⟨w.heap.size + 1, 0, none⟩ (.string s)).cell? ⟨w.heap.size + 1, 1, none⟩ = some (.int .i64 0) := (D1.2 1).1
  have z1 := (D1.2 1).2
  have D2 := D1.set 1 (by simp) (.int .i64 t)
  have n2 : ((X1.setCell ⟨w.heap.size + 1, 0, none⟩ (.string s)).setCell ⟨w.heap.size + 1, 1, none⟩ (.int .i64 t)).cell? ⟨w.heap.size + 1, 2, none⟩ = some (.int .i64 0) := (D2.2 2).1
  have z2 := (D2.2 2).2
  have D3 := D2.set 2 (by simp) (.int .i64 d)
  have n3 : (((X1.setCell ⟨w.heap.size + 1, 0, none⟩ (.string s)).setCell ⟨w.heap.size + 1, 1, none⟩ (.int .i64 t)).setCell ⟨w.heap.size + 1, 2, none⟩ (.int .i64 d)).cell? ⟨w.heap.size + 1, 3, none⟩ = some (.slice none 0 0) := (D3.2 3).1
  have z3 := (D3.2 3).2
  have D4 := D3.set 3 (by simp) (.slice p1 n c1)
  obtain ⟨X3, hX3⟩ : ∃ X3, X3 = (((X1.setCell ⟨w.heap.size + 1, 0, none⟩ (.string s)).setCell ⟨w.heap.size + 1, 1, none⟩ (.int .i64 t)).setCell ⟨w.heap.size + 1, 2, none⟩ (.int .i64 d)).setCell ⟨w.heap.size + 1, 3, none⟩ (.slice p1 n c1) := ⟨_, rfl⟩
  have kZ : Below w.heap.size w X3 := by rw [hX3]; exact (((kX.setCell (by show w.heap.size ≤ w.heap.size + 1; omega) _).setCell (by show w.heap.size ≤ w.heap.size + 1; omega) _).setCell (by show w.heap.size ≤ w.heap.size + 1; omega) _).setCell (by show w.heap.size ≤ w.heap.size + 1; omega) _
  replace rX := (((rX.set_below (a := ⟨w.heap.size + 1, 0, none⟩) (by show w.heap.size + 1 < _; omega) (.string s)).set_below (a := ⟨w.heap.size + 1, 1, none⟩) (by show w.heap.size + 1 < _; omega) (.int .i64 t)).set_below (a := ⟨w.heap.size + 1, 2, none⟩) (by show w.heap.size + 1 < _; omega) (.int .i64 d)).set_below (a := ⟨w.heap.size + 1, 3, none⟩) (by show w.heap.size + 1 < _; omega) (.slice p1 n c1)
  rw [← hX3] at D4 rX
  have y0 : X3.cell? ⟨w.heap.size + 1, 0, none⟩ = some (.string s) := (D4.2 0).1
  have y1 : X3.cell? ⟨w.heap.size + 1, 1, none⟩ = some (.int .i64 t) := (D4.2 1).1
  have y2 : X3.cell? ⟨w.heap.size + 1, 2, none⟩ = some (.int .i64 d) := (D4.2 2).1
  have y3 : X3.cell? ⟨w.heap.size + 1, 3, none⟩ = some (.slice p1 n c1) := (D4.2 3).1
  have zz : w1.heap.size = X3.heap.size := by rw [hX3, ← zX]; simp
  replace hX3 : Hid ((((X1.setCell ⟨w.heap.size + 1, 0, none⟩ (.string s)).setCell ⟨w.heap.size + 1, 1, none⟩ (.int .i64 t)).setCell ⟨w.heap.size + 1, 2, none⟩ (.int .i64 d)).setCell ⟨w.heap.size + 1, 3, none⟩ (.slice p1 n c1) = X3) := hX3.symm
  replace zz : Hid (w1.heap.size = X3.heap.size) := zz
  clear zX k1 kX r1 D1 D2 D3 C1 C2
  go_wp2_with (first | rw [hX1.out] | rw [hX3.out])
  refine bodyPost_ret (v := .agg #[.string s, .int .i64 t, .int .i64 d, .slice p1 n c1]) ?_ rfl ⟨_, _, rfl, ?_, kZ⟩
  · simp only [results, Tryz.f114]
    go_simp
  · have e2 := zz.out
    rw [← e2]
    exact ⟨owns_mono rX.1 (by omega), rX.2⟩

set_option maxHeartbeats 2000000 in
theorem eqItem_any (s s' : ByteArray) (t t' d d' : Int) (p p' : Option Addr) (n c n' c' : Nat) (xs xs' : List Int) (w : World) (hn : n ≤ 9223372036854775807) (hx : xs.length = n) (hx' : xs'.length = n') (h1 : BytesIn w p n xs) (h2 : BytesIn w p' n' xs') :
    Calls Tryz.prog 111 #[.agg #[.string s, .int .i64 t, .int .i64 d, .slice p n c], .agg #[.string s', .int .i64 t', .int .i64 d', .slice p' n' c']] w fun z w' => z = .returned (.bool (decide (s = s' ∧ t = t' ∧ d = d' ∧ xs = xs'))) ∧ Below w.heap.size w w' := by
  have kA : ∀ o1 o2, Below w.heap.size w ((w.alloc o1).alloc o2) := fun o1 o2 => made_below _ _ (made_below _ _ (Below.refl _ _))
  obtain ⟨R, hR⟩ : ∃ R : Bool, R = decide (s = s' ∧ t = t' ∧ d = d' ∧ xs = xs') := ⟨_, rfl⟩
  rw [← hR]
  replace hR : Hid (R = decide (s = s' ∧ t = t' ∧ d = d' ∧ xs = xs')) := hR
  by_cases hs : s = s'
  · subst hs
    by_cases ht : t = t'
    · subst ht
      by_cases hd : d = d'
      · subst hd
        go_enter Tryz.func111, Tryz.ntmps111
        go_wp2_with (fail)
        refine (eqByteS_any p p' n n' c c' xs xs' _ hn hx hx' (in_below h1 (kA _ _)) (in_below h2 (kA _ _))).mono ?_
        rintro z w1 ⟨rfl, b1⟩
        have k1 := made_below _ _ (made_below _ _ b1)
        clear b1 kA
        by_cases hxx : xs = xs'
        · rw [decide_eq_true hxx]
          have hr : R = true := by rw [hR.out]; simp [hxx]
          subst hr
          clear hR hxx
          go_wp2_with (fail)
          go_ret
          exact ⟨rfl, k1⟩
        · rw [decide_eq_false hxx]
          have hr : R = false := by rw [hR.out]; exact decide_eq_false fun k => hxx k.2.2.2
          subst hr
          clear hR hxx
          go_wp2_with (fail)
          go_ret
          exact ⟨rfl, k1⟩
      · have hr : R = false := by rw [hR.out]; exact decide_eq_false fun k => hd k.2.2.1
        subst hr
        have hd' : (d != d') = true := by simp [hd]
        clear hR hd
        go_enter Tryz.func111, Tryz.ntmps111
        go_wp2_with (fail)
        go_ret
        exact ⟨rfl, kA _ _⟩
    · have hr : R = false := by rw [hR.out]; exact decide_eq_false fun k => ht k.2.1
      subst hr
      have ht' : (t != t') = true := by simp [ht]
      clear hR ht
      go_enter Tryz.func111, Tryz.ntmps111
      go_wp2_with (fail)
      go_ret
      exact ⟨rfl, kA _ _⟩
  · have hr : R = false := by rw [hR.out]; exact decide_eq_false fun k => hs k.1
    subst hr
    have hs' : (s.toList == s'.toList) = false := str_ne hs
    clear hR hs
    go_enter Tryz.func111, Tryz.ntmps111
    go_wp2_with (fail)
    go_ret
    exact ⟨rfl, kA _ _⟩

end Go.Proofs.YthfnechcddmjkaaGreatDoor

namespace Go.Proofs.YthfnechcddmjkaaGreatDoor
open Go.RowKit
set_option maxRecDepth 100000

structure RdA where
  s : RwA
  e : Int
  p : Option Addr
  n : Nat
  c : Nat
  seen : List RwA
  q : Option Addr
  m : Nat
  d : Nat
  got : List RwA
def RdA.cells (x : RdA) : Array Value := #[.slice x.s.p x.s.n x.s.c, .int .i64 x.e, .slice x.p x.n x.c, .slice x.q x.m x.d]
def RdA.con (x : RdA) : List Int × Int × List (List Int) × List (List Int) := (x.s.xs, x.e, x.seen.map RwA.xs, x.got.map RwA.xs)
structure RdA.Ok (w : World) (x : RdA) : Prop where
  seed : x.s.Ok w
  he : -9223372036854775808 ≤ x.e ∧ x.e ≤ 9223372036854775807
  seen : Rows w x.p x.n x.seen
  got : Rows w x.q x.m x.got
theorem RdA.Ok.on {w w' : World} {x : RdA} (h : x.Ok w) (b : Below w.heap.size w w') : x.Ok w' := ⟨h.seed.on b, h.he, h.seen.on b, h.got.on b⟩
structure RdA.Fit (x : RdA) : Prop where
  s : x.s.n ≤ 1048576
  n : x.n ≤ 1048576
  seen : ∀ y ∈ x.seen, y.n ≤ 1048576
  m : x.m ≤ 1048576
  got : ∀ y ∈ x.got, y.n ≤ 1048576

end Go.Proofs.YthfnechcddmjkaaGreatDoor
