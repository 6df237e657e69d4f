/-
  The laws' own functions of lists of items: whether two say the same, their size. Conditions: items that lie there.
  The size of a list of items, as the laws reckon it. Conditions: items that lie there, lengths that there can be.
  Whether a queue is right, as the specification tells it. Conditions: items that lie there, as many as a law hands over.
  The program's own copies of items, the bytes of each too. Conditions: items that lie there, as many as a law hands over.
-/
import Derived.Test.YthfnechcddmjkaaGreatDoorPar14
import Derived.Deep.RegionHeld3
import Derived.Test.YthfnechcddmjkaaGreatDoorPar17
import Derived.Test.YthfnechcddmjkaaGreatDoorPar03
namespace Go.Proofs.YthfnechcddmjkaaGreatDoor
open Go.RowKit
set_option maxRecDepth 100000

structure ItA.Lies (w : World) (x : ItA) : Prop where
  hn : x.n ≤ 9223372036854775807
  len : x.xs.length = x.n
  bytes : BytesIn w x.p x.n x.xs
theorem ItA.Ok.lies {w : World} {x : ItA} (h : x.Ok w) : x.Lies w := ⟨h.hn, h.len, h.bytes⟩
theorem ItA.Lies.on {w w' : World} {x : ItA} (h : x.Lies w) (b : Below w.heap.size w w') : x.Lies w' := ⟨h.hn, h.len, in_below h.bytes b⟩
theorem OwnItems.lies {w : World} {lo hi : Nat} {v : Value} {n : Nat} {its : List ItA} (h : OwnItems w lo hi v n its) (hm : ∀ x ∈ its, x.xs.length ≤ 1048576) : ∀ x ∈ its, x.Lies w := fun x hx => by
  have hb : Own 5 w lo hi (.slice x.p x.n x.c) x.n x.xs := h.bytes x hx
  exact ⟨by have := hm x hx; have := hb.len; omega, hb.len, hb.bytes⟩

theorem getD_mem {α : Type} [Inhabited α] {l : List α} {k : Nat} (h : k < l.length) : l.getD k default ∈ l := by
  rw [List.getD_eq_getElem?_getD, List.getElem?_eq_getElem h]; exact List.getElem_mem _
theorem take_getD {α : Type} [Inhabited α] {l : List α} {k : Nat} (h : k < l.length) : l.take (k + 1) = l.take k ++ [l.getD k default] := by
  rw [List.take_add_one, List.getElem?_eq_getElem h]
  simp [List.getD_eq_getElem?_getD, List.getElem?_eq_getElem h]

theorem ItemsIn.at {w : World} {b o n : Nat} {its : List ItA} (h : ∀ i j v, i < n → (its.getD i default).vals[j]? = some v → w.cell? ⟨b, o + i * 4 + j, none⟩ = some v) {k : Nat} (hk : k < n) {x : ItA} (hx : its.getD k default = x) :
    w.cell? ⟨b, o + k * 4, none⟩ = some (.string x.s) ∧ w.cell? ⟨b, o + k * 4 + 1, none⟩ = some (.int .i64 x.t) ∧ w.cell? ⟨b, o + k * 4 + 2, none⟩ = some (.int .i64 x.d) ∧ w.cell? ⟨b, o + k * 4 + 3, none⟩ = some (.slice x.p x.n x.c) := by
  subst hx
  exact ⟨h k 0 _ hk rfl, h k 1 _ hk rfl, h k 2 _ hk rfl, h k 3 _ hk rfl⟩

end Go.Proofs.YthfnechcddmjkaaGreatDoor

namespace Go.Proofs.YthfnechcddmjkaaGreatDoor
open Go.RowKit
set_option maxRecDepth 100000

def totI (its : List ItA) : Nat := (its.map fun x => x.s.size + x.n).sum

end Go.Proofs.YthfnechcddmjkaaGreatDoor

namespace Go.Proofs.YthfnechcddmjkaaGreatDoor
open Go.RowKit
set_option maxRecDepth 100000

def clash (x y : ItA) : Prop := x.s = y.s ∧ x.t = y.t ∧ 0 < y.t
def okAt (its : List ItA) (i : Nat) : Prop :=
  itB (its.getD i default).s (its.getD i default).t (its.getD i default).d (its.getD i default).n = true ∧ cntI (its.getD i default).s its ≤ 4 ∧ ∀ k, k < i → ¬ clash (its.getD k default) (its.getD i default)
def QOk (its : List ItA) : Prop := its.length ≤ 10 ∧ ∀ i, i < its.length → okAt its i
noncomputable def qB (its : List ItA) : Bool := @decide (QOk its) (Classical.propDecidable _)
theorem qB_true {its : List ItA} (h : QOk its) : qB its = true := by unfold qB; exact @decide_eq_true _ (Classical.propDecidable _) h
theorem qB_false {its : List ItA} (h : ¬ QOk its) : qB its = false := by unfold qB; exact @decide_eq_false _ (Classical.propDecidable _) h

end Go.Proofs.YthfnechcddmjkaaGreatDoor

namespace Go.Proofs.YthfnechcddmjkaaGreatDoor
open Go.RowKit
set_option maxRecDepth 100000

set_option maxHeartbeats 2000000 in
theorem copiedItem_own (s : ByteArray) (t d : Int) (p : Option Addr) (n c : Nat) (xs : List Int) (w : World) (hn : n ≤ 1048576) (hx : xs.length = n) (h : BytesIn w p n xs) :
    Calls Tryz.prog 65 #[.agg #[.string s, .int .i64 t, .int .i64 d, .slice p n c]] w fun z w' => ∃ p' c', z = .returned (.agg #[.string s, .int .i64 t, .int .i64 d, .slice p' n c']) ∧
      Own 5 w' w.heap.size w'.heap.size (.slice p' n c') n xs ∧ Below w.heap.size w w' := by
  have kA : ∀ o1 o2, Below w.heap.size w ((w.alloc o1).alloc o2) := fun o1 o2 => made_below _ _ (made_below _ _ (Below.refl _ _))
  have sz : ∀ (W : World) o, (W.alloc o).heap.size = W.heap.size + 1 := fun W o => by simp
  go_enter Tryz.func65, Tryz.ntmps65
  go_wp2_with (fail)
  refine (copied_any p n c xs _ hn hx (in_below h (kA _ _))).mono ?_
  rintro z w1 ⟨p1, c1, rfl, r1, b1⟩
  have C2 := (Cells.made w _ _).on (made_below _ _ b1)
  have C1 := (Cells.made (w.alloc _) _ _).on b1
  have k1 := made_below _ _ (made_below _ _ b1)
  rw [sz] at C1
  rw [sz, sz] at r1
  clear b1 kA sz
  have s1 : w1.cell? ⟨w.heap.size, 3, none⟩ = some (.slice p n c) := (C2.2 3).1
  have f1 := (C2.2 3).2
  obtain ⟨X1, hX1⟩ : ∃ X1, X1 = w1.setCell ⟨w.heap.size, 3, none⟩ (.slice p1 n c1) := ⟨_, rfl⟩
  have kX : Below w.heap.size w X1 := by rw [hX1]; exact k1.setCell (Nat.le_refl _) _
  replace C1 := C1.other (a := ⟨w.heap.size, 3, none⟩) (.slice p1 n c1) (by show w.heap.size + 1 ≠ w.heap.size; omega)
  replace C2 := C2.set 3 (by simp) (.slice p1 n c1)
  have rX := r1.set_below (a := ⟨w.heap.size, 3, none⟩) (by show w.heap.size < _; omega) (.slice p1 n c1)
  rw [← hX1] at C1 C2 rX
  have zX : X1.heap.size = w1.heap.size := by rw [hX1]; simp
  have m0 : X1.cell? ⟨w.heap.size, 0, none⟩ = some (.string s) := (C2.2 0).1
  have m1 : X1.cell? ⟨w.heap.size, 1, none⟩ = some (.int .i64 t) := (C2.2 1).1
  have m2 : X1.cell? ⟨w.heap.size, 2, none⟩ = some (.int .i64 d) := (C2.2 2).1
  have m3 : X1.cell? ⟨w.heap.size, 3, none⟩ = some (.slice p1 n c1) := (C2.2 3).1
  replace hX1 : Hid (w1.setCell ⟨w.heap.size, 3, none⟩ (.slice p1 n c1) = X1) := hX1.symm
  have n0 : X1.cell? ⟨w.heap.size + 1, 0, none⟩ = some (.string ByteArray.empty) := (C1.2 0).1
  have z0 := (C1.2 0).2
  have D1 := C1.set 0 (by simp) (.string s)
  have n1 : (X1.setCell ⟨w.heap.size + 1, 0, none⟩ (.string s)).cell? ⟨w.heap.size + 1, 1, none⟩ = some (.int .i64 0) := (D1.2 1).1
  have z1 := (D1.2 1).2
  have D2 := D1.set 1 (by simp) (.int .i64 t)
  have n2 : ((X1.setCell ⟨w.heap.size + 1, 0, none⟩ (.string s)).setCell ⟨w.heap.size + 1, 1, none⟩ (.int .i64 t)).cell? ⟨w.heap.size + 1, 2, none⟩ = some (.int .i64 0) := (D2.2 2).1
  have z2 := (D2.2 2).2
  have D3 := D2.set 2 (by simp) (.int .i64 d)
  have n3 : (((X1.setCell ⟨w.heap.size + 1, 0, none⟩ (.string s)).setCell ⟨w.heap.size + 1, 1, none⟩ (.int .i64 t)).setCell ⟨w.heap.size + 1, 2, none⟩ (.int .i64 d)).cell? ⟨w.heap.size + 1, 3, none⟩ = some (.slice none 0 0) := (D3.2 3).1
  have z3 := (D3.2 3).2
  have D4 := D3.set 3 (by simp) (.slice p1 n c1)
  obtain ⟨X3, hX3⟩ : ∃ X3, X3 = (((X1.setCell ⟨w.heap.size + 1, 0, none⟩ (.string s)).setCell ⟨w.heap.size + 1, 1, none⟩ (.int .i64 t)).setCell ⟨w.heap.size + 1, 2, none⟩ (.int .i64 d)).setCell ⟨w.heap.size + 1, 3, none⟩ (.slice p1 n c1) := ⟨_, rfl⟩
  have kZ : Below w.heap.size w X3 := by rw [hX3]; exact (((kX.setCell (by show w.heap.size ≤ w.heap.size + 1; omega) _).setCell (by show w.heap.size ≤ w.heap.size + 1; omega) _).setCell (by show w.heap.size ≤ w.heap.size + 1; omega) _).setCell (by show w.heap.size ≤ w.heap.size + 1; omega) _
  replace rX := (((rX.set_below (a := ⟨w.heap.size + 1, 0, none⟩) (by show w.heap.size + 1 < _; omega) (.string s)).set_below (a := ⟨w.heap.size + 1, 1, none⟩) (by show w.heap.size + 1 < _; omega) (.int .i64 t)).set_below (a := ⟨w.heap.size + 1, 2, none⟩) (by show w.heap.size + 1 < _; omega) (.int .i64 d)).set_below (a := ⟨w.heap.size + 1, 3, none⟩) (by show w.heap.size + 1 < _; omega) (.slice p1 n c1)
  rw [← hX3] at D4 rX
  have y0 : X3.cell? ⟨w.heap.size + 1, 0, none⟩ = some (.string s) := (D4.2 0).1
  have y1 : X3.cell? ⟨w.heap.size + 1, 1, none⟩ = some (.int .i64 t) := (D4.2 1).1
  have y2 : X3.cell? ⟨w.heap.size + 1, 2, none⟩ = some (.int .i64 d) := (D4.2 2).1
  have y3 : X3.cell? ⟨w.heap.size + 1, 3, none⟩ = some (.slice p1 n c1) := (D4.2 3).1
  have zz : w1.heap.size = X3.heap.size := by rw [hX3, ← zX]; simp
  replace hX3 : Hid ((((X1.setCell ⟨w.heap.size + 1, 0, none⟩ (.string s)).setCell ⟨w.heap.size + 1, 1, none⟩ (.int .i64 t)).setCell ⟨w.heap.size + 1, 2, none⟩ (.int .i64 d)).setCell ⟨w.heap.size + 1, 3, none⟩ (.slice p1 n c1) = X3) := hX3.symm
  replace zz : Hid (w1.heap.size = X3.heap.size) := zz
  clear zX k1 kX r1 D1 D2 D3 C1 C2
  go_wp2_with (first | rw [hX1.out] | rw [hX3.out])
  refine bodyPost_ret (v := .agg #[.string s, .int .i64 t, .int .i64 d, .slice p1 n c1]) ?_ rfl ⟨_, _, rfl, ?_, kZ⟩
  · simp only [results, Tryz.f65]
    go_simp
  · have e2 := zz.out
    rw [← e2]
    exact ⟨owns_mono rX.1 (by omega), rX.2⟩

set_option maxHeartbeats 4000000 in
theorem copiedItems_own (p : Option Addr) (n c : Nat) (its : List ItA) (w : World) (hn : n ≤ 1048577) (hl : its.length = n) (h : ItemsIn w p n its) (li : ∀ x ∈ its, x.Lies w) (fit : ∀ x ∈ its, x.n ≤ 1048576) :
    Calls Tryz.prog 109 #[.slice p n c] w fun e w' => ∃ p' c' its', e = .returned (.slice p' n c') ∧ OwnItems w' w.heap.size w'.heap.size (.slice p' n c') n its' ∧ Hid (its'.map ItA.con = its.map ItA.con) ∧ Below w.heap.size w w' := by
  obtain ⟨i0, hi, hz0, hz1, hz2⟩ := info_parts infoItem
  go_enter Tryz.func109, Tryz.ntmps109
  go_wp2_with (at_make; refine wpList_make_full _ rfl _ _ 23 rfl w.heap.size 84 i0 _ 4 Tryz.underlying23 hi hz0 hz1 _ _ _ _ n rfl rfl rfl rfl ?b2 ?b3 ?b4 ?_)
  case b2 => rw [hz2]; omega
  case b3 => unfold maxLen; omega
  case b4 => exact Nat.le_refl _
  intro w1 hown hgrow
  rw [made_items n] at hown
  have hbel : Below w.heap.size w w1 := (Below.refl _ _).grown hgrow (Nat.le_refl _) (fun _ h => by cases h)
  have hO := noItems _ _ _ _ _ hown
  clear hgrow hown
  obtain ⟨g, hg⟩ : ∃ g, g = w.heap.size := ⟨_, rfl⟩
  have hgw : g < w1.heap.size := hO.top g (by rw [hg]; rfl)
  rw [← hg] at hO hbel ⊢
  replace hg : Hid (g = w.heap.size) := hg
  go_wp2_with (fail)
  go_loopw [11] (fun i wr => ∃ k : Nat, k ≤ n ∧ i = .int .i64 k ∧ (∃ done : List ItA, done.length = k ∧ Hid (done.map ItA.con = (its.take k).map ItA.con) ∧ OwnItems wr g wr.heap.size (.slice (some ⟨g, 0, none⟩) n n) n (done ++ List.replicate (n - k) default)) ∧ Below g w wr)
    (fun i _ => n - (intOf i).toNat)
  case atStart => exact ⟨0, Nat.zero_le _, rfl, ⟨[], rfl, rfl, hO⟩, hbel⟩
  case round =>
    clear hO hbel hgw
    obtain ⟨k, hk, rfl, ⟨done, hdl, hdc, hO⟩, hbel⟩ := hrel
    have hgw : g < wr.heap.size := hO.top g rfl
    rw [hg.out] at hbel
    by_cases hlt : k < n
    · obtain ⟨b, o, rfl, hc⟩ := itemsIn_on h hbel (by omega)
      obtain ⟨x, hx⟩ : ∃ x, its.getD k default = x := ⟨_, rfl⟩
      obtain ⟨l0, l1, l2, l3⟩ := ItemsIn.at hc hlt hx
      have hxm : x ∈ its := hx ▸ getD_mem (by omega)
      have lx := (li x hxm).on hbel
      have hnx := fit x hxm
      replace hdc : Hid (done.map ItA.con ++ [x.con] = (its.take (k + 1)).map ItA.con) := by
        rw [Hid, take_getD (by omega), hx, List.map_append, hdc.out]; rfl
      obtain ⟨s, t, d, xp, xn, xc, xs⟩ := x
      dsimp only at l0 l1 l2 l3 hnx
      obtain ⟨_, lx1, lx2⟩ := lx
      dsimp only at lx1 lx2
      obtain ⟨w5, hw5⟩ : ∃ w5, w5 = wr.alloc (.cells #[.string s, .int .i64 t, .int .i64 d, .slice xp xn xc] 84) := ⟨_, rfl⟩
      have b5 : Below wr.heap.size wr w5 := by rw [hw5]; exact made_below _ _ (Below.refl _ _)
      have C5 : Cells w5 wr.heap.size #[.string s, .int .i64 t, .int .i64 d, .slice xp xn xc] := by rw [hw5]; exact Cells.made _ _ _
      have m0 : w5.cell? ⟨wr.heap.size, 0, none⟩ = some (.string s) := (C5.2 0).1
      have m1 : w5.cell? ⟨wr.heap.size, 1, none⟩ = some (.int .i64 t) := (C5.2 1).1
      have m2 : w5.cell? ⟨wr.heap.size, 2, none⟩ = some (.int .i64 d) := (C5.2 2).1
      have m3 : w5.cell? ⟨wr.heap.size, 3, none⟩ = some (.slice xp xn xc) := (C5.2 3).1
      have z5 := b5.size
      have hO5 := hO.on b5
      have hbel5 := below_on hbel b5
      have lx5 := in_below lx2 b5
      replace hw5 : Hid (wr.alloc (.cells #[.string s, .int .i64 t, .int .i64 d, .slice xp xn xc] 84) = w5) := hw5.symm
      clear hx hxm hc h li fit hO hbel C5 b5 lx2
      go_wp2_with (rw [hw5.out])
      refine (copiedItem_own s t d xp xn xc xs _ hnx lx1 lx5).mono ?_
      rintro z w2 ⟨p2, c2, rfl, r2, b2⟩
      have hgo := hg.out
      have hO2 := (hO5.on b2).wide (lo' := g) (hi' := w2.heap.size) (Nat.le_refl _) (by have := b2.size; omega)
      have hbel2 := below_on hbel5 b2
      obtain ⟨⟨u0, c0⟩, ⟨u1, c1⟩, ⟨u2, c2'⟩, ⟨u3, c3⟩, f0, f1, f2, f3⟩ := store_item ⟨s, t, d, p2, xn, c2, xs⟩ hO2.row hlt hO2.len
      dsimp only at c0 c1 c2' c3 f0 f1 f2 f3
      have hO3 := hO2.set (k := k) (x := ⟨s, t, d, p2, xn, c2, xs⟩) hlt (r2.wide (by omega) (Nat.le_refl _)) (.inr fun e => by have := (r2.1.lt _ e).1; omega) (fun y hy => by
        rcases hB : y.slice.ownBlock with _ | j
        · exact .inl rfl
        · right
          intro e
          have h1 := (hO5.bytes y hy).2 j hB
          have h2 := (r2.1.lt j e.symm).1
          omega)
      have hset : (done ++ List.replicate (n - k) (default : ItA)).set k ⟨s, t, d, p2, xn, c2, xs⟩ = (done ++ [⟨s, t, d, p2, xn, c2, xs⟩]) ++ List.replicate (n - (k + 1)) default := by
        rw [List.set_append_right _ _ (by omega), hdl, Nat.sub_self, show n - k = (n - (k + 1)) + 1 by omega, List.replicate_succ]
        simp
      rw [hset] at hO3
      have hbel3 : Below w.heap.size w (setItem w2 g k ⟨s, t, d, p2, xn, c2, xs⟩) := hbel2.grown (setItem_grown _ _ _ _) hbel2.size (fun j hj => by cases hj; omega)
      have hsz : (setItem w2 g k ⟨s, t, d, p2, xn, c2, xs⟩).heap.size = w2.heap.size := by simp [setItem]
      rw [← hsz] at hO3
      obtain ⟨X, hX⟩ : ∃ X, X = setItem w2 g k ⟨s, t, d, p2, xn, c2, xs⟩ := ⟨_, rfl⟩
      rw [← hX] at hO3 hbel3
      replace hX : Hid ((((w2.setCell ⟨g, k * 4, none⟩ (.string s)).setCell ⟨g, k * 4 + 1, none⟩ (.int .i64 t)).setCell ⟨g, k * 4 + 2, none⟩ (.int .i64 d)).setCell ⟨g, k * 4 + 3, none⟩ (.slice p2 xn c2) = X) := hX.symm
      have hnew : Hid ((done ++ [(⟨s, t, d, p2, xn, c2, xs⟩ : ItA)]).map ItA.con = (its.take (k + 1)).map ItA.con) := by
        rw [Hid, List.map_append, ← hdc.out]; rfl
      rw [← hg.out] at hbel3
      clear hgo hset hsz hO2 hO5 hbel5 hbel2 b2 r2 hdc
      go_wp2_with (rw [hX.out])
      go_roundw
      case rel => exact ⟨k + 1, by omega, by go_num, ⟨_, by simp [hdl], hnew, hO3⟩, hbel3⟩
      case measure => simp [intOf]; omega
    · have hkn : k = n := by omega
      subst hkn
      rw [Nat.sub_self] at hO
      have hO' : OwnItems wr g wr.heap.size (.slice (some ⟨g, 0, none⟩) k k) k done := by simpa using hO
      have hall : Hid (done.map ItA.con = its.map ItA.con) := by rw [Hid, hdc.out, ← hl, List.take_length]
      clear hO hdc
      rw [← hg.out] at hbel
      go_wp2_with (fail)
      go_ret
      rw [← hg.out]
      exact ⟨_, _, done, rfl, hO', hall, hbel⟩

end Go.Proofs.YthfnechcddmjkaaGreatDoor
