/-
  The laws' own functions of lists of items: whether two say the same, their size. Conditions: items that lie there.
-/
import Derived.Test.YtggbmpgpopenoaaItemsTo
import Derived.Deep.RegionHeld3
namespace Go.Proofs.Ytggbmpgpopenoaa
open Go.RowKit
set_option maxRecDepth 100000

/-- An item's bytes lie there. -/
structure ItA.Lies (w : World) (x : ItA) : Prop where
  hn : x.n ≤ 9223372036854775807
  len : x.xs.length = x.n
  bytes : BytesIn w x.p x.n x.xs
theorem ItA.Ok.lies {w : World} {x : ItA} (h : x.Ok w) : x.Lies w := ⟨h.hn, h.len, h.bytes⟩
theorem ItA.Lies.on {w w' : World} {x : ItA} (h : x.Lies w) (b : Below w.heap.size w w') : x.Lies w' := ⟨h.hn, h.len, in_below h.bytes b⟩
theorem OwnItems.lies {w : World} {lo hi : Nat} {v : Value} {n : Nat} {its : List ItA} (h : OwnItems w lo hi v n its) (hm : ∀ x ∈ its, x.xs.length ≤ 1048576) : ∀ x ∈ its, x.Lies w := fun x hx => by
  have hb : Own 5 w lo hi (.slice x.p x.n x.c) x.n x.xs := h.bytes x hx
  exact ⟨by have := hm x hx; have := hb.len; omega, hb.len, hb.bytes⟩

theorem getD_mem {α : Type} [Inhabited α] {l : List α} {k : Nat} (h : k < l.length) : l.getD k default ∈ l := by
  rw [List.getD_eq_getElem?_getD, List.getElem?_eq_getElem h]; exact List.getElem_mem _
theorem take_getD {α : Type} [Inhabited α] {l : List α} {k : Nat} (h : k < l.length) : l.take (k + 1) = l.take k ++ [l.getD k default] := by
  rw [List.take_add_one, List.getElem?_eq_getElem h]
  simp [List.getD_eq_getElem?_getD, List.getElem?_eq_getElem h]

/-- The cells of the item at a place. -/
theorem ItemsIn.at {w : World} {b o n : Nat} {its : List ItA} (h : ∀ i j v, i < n → (its.getD i default).vals[j]? = some v → w.cell? ⟨b, o + i * 4 + j, none⟩ = some v) {k : Nat} (hk : k < n) {x : ItA} (hx : its.getD k default = x) :
    w.cell? ⟨b, o + k * 4, none⟩ = some (.string x.s) ∧ w.cell? ⟨b, o + k * 4 + 1, none⟩ = some (.int .i64 x.t) ∧ w.cell? ⟨b, o + k * 4 + 2, none⟩ = some (.int .i64 x.d) ∧ w.cell? ⟨b, o + k * 4 + 3, none⟩ = some (.slice x.p x.n x.c) := by
  subst hx
  exact ⟨h k 0 _ hk rfl, h k 1 _ hk rfl, h k 2 _ hk rfl, h k 3 _ hk rfl⟩

set_option maxHeartbeats 4000000 in
theorem eqItemS_same (p p' : Option Addr) (n c c' : Nat) (its its' : List ItA) (w : World) (hn : n ≤ 1048576) (hl : its.length = n) (hl' : its'.length = n) (h : ItemsIn w p n its) (h' : ItemsIn w p' n its') (li : ∀ x ∈ its, x.Lies w) (li' : ∀ x ∈ its', x.Lies w) :
    Calls Try.prog 35 #[.slice p n c, .slice p' n c'] w fun e w' => e = .returned (.bool (decide (its.map ItA.con = its'.map ItA.con))) ∧ Below w.heap.size w w' := by
  have hd : ((n : Int) != (n : Int)) = false := by simp
  obtain ⟨R, hR⟩ : ∃ R : Bool, R = decide (its.map ItA.con = its'.map ItA.con) := ⟨_, rfl⟩
  rw [← hR]
  replace hR : Hid (R = decide (its.map ItA.con = its'.map ItA.con)) := hR
  go_enter Try.func35, Try.ntmps35
  go_wp2_with (fail)
  go_loopw [5] (fun i wr => ∃ k : Nat, k ≤ n ∧ i = .int .i64 k ∧ Hid ((its.take k).map ItA.con = (its'.take k).map ItA.con) ∧ Below w.heap.size w wr) (fun i _ => n - (intOf i).toNat)
  case atStart => exact ⟨0, Nat.zero_le _, rfl, by simp [Hid], Below.refl _ _⟩
  case round =>
    obtain ⟨k, hk, rfl, hsame, hbel⟩ := hrel
    by_cases hlt : k < n
    · obtain ⟨b, o, rfl, hc⟩ := itemsIn_on h hbel (by omega)
      obtain ⟨b', o', rfl, hc'⟩ := itemsIn_on h' hbel (by omega)
      obtain ⟨x, hx⟩ : ∃ x, its.getD k default = x := ⟨_, rfl⟩
      obtain ⟨y, hy⟩ : ∃ y, its'.getD k default = y := ⟨_, rfl⟩
      obtain ⟨l0, l1, l2, l3⟩ := ItemsIn.at hc hlt hx
      obtain ⟨m0, m1, m2, m3⟩ := ItemsIn.at hc' hlt hy
      have lx := (li x (hx ▸ getD_mem (by omega))).on hbel
      have ly := (li' y (hy ▸ getD_mem (by omega))).on hbel
      have hmore : Hid (x.con = y.con → (its.take (k + 1)).map ItA.con = (its'.take (k + 1)).map ItA.con) := by
        intro e
        rw [take_getD (by omega), take_getD (by omega), hx, hy, List.map_append, List.map_append, hsame.out, List.map_singleton, List.map_singleton, e]
      have hless : Hid (x.con ≠ y.con → R = false) := by
        intro e
        rw [hR.out]
        refine decide_eq_false fun e2 => e ?_
        have e3 := congrArg (fun l => l[k]?) e2
        simp only [List.getElem?_map] at e3
        rw [List.getElem?_eq_getElem (show k < its.length by omega), List.getElem?_eq_getElem (show k < its'.length by omega)] at e3
        simp only [Option.map_some, Option.some.injEq] at e3
        rw [← hx, ← hy]
        simpa [List.getD_eq_getElem?_getD, List.getElem?_eq_getElem (show k < its.length by omega), List.getElem?_eq_getElem (show k < its'.length by omega)] using e3
      obtain ⟨s, t, d, xp, xn, xc, xs⟩ := x
      obtain ⟨s', t', d', yp, yn, yc, ys⟩ := y
      obtain ⟨lx0, lx1, lx2⟩ := lx
      obtain ⟨ly0, ly1, ly2⟩ := ly
      dsimp only at l0 l1 l2 l3 m0 m1 m2 m3 lx0 lx1 lx2 ly0 ly1 ly2
      have hcon : (decide (s = s' ∧ t = t' ∧ d = d' ∧ xs = ys)) = decide ((s, t, d, xs) = (s', t', d', ys)) := by simp
      replace hmore : Hid ((s, t, d, xs) = (s', t', d', ys) → (its.take (k + 1)).map ItA.con = (its'.take (k + 1)).map ItA.con) := hmore
      replace hless : Hid ((s, t, d, xs) ≠ (s', t', d', ys) → R = false) := hless
      have C := fun X h1 h2 => eqItem_any s s' t t' d d' xp yp xn xc yn yc xs ys X lx0 lx1 ly1 h1 h2
      rw [hcon] at C
      clear hc hc' h h' hx hy hsame hcon li li'
      by_cases hq : (s, t, d, xs) = (s', t', d', ys)
      · rw [decide_eq_true hq] at C
        replace hmore := hmore.out hq
        replace hmore : Hid _ := hmore
        clear hq hless
        have HK : ∀ w', Below wr.heap.size wr w' → w'.cell? ⟨b, o + k * 4, none⟩ = some (.string s) ∧ w'.cell? ⟨b, o + k * 4 + 1, none⟩ = some (.int .i64 t) ∧ w'.cell? ⟨b, o + k * 4 + 2, none⟩ = some (.int .i64 d) ∧ w'.cell? ⟨b, o + k * 4 + 3, none⟩ = some (.slice xp xn xc) ∧ w'.cell? ⟨b', o' + k * 4, none⟩ = some (.string s') ∧ w'.cell? ⟨b', o' + k * 4 + 1, none⟩ = some (.int .i64 t') ∧ w'.cell? ⟨b', o' + k * 4 + 2, none⟩ = some (.int .i64 d') ∧ w'.cell? ⟨b', o' + k * 4 + 3, none⟩ = some (.slice yp yn yc) := fun w' hX => ⟨(hX.cell (World.block_lt_of_cell? wr _ l0)).trans l0, (hX.cell (World.block_lt_of_cell? wr _ l1)).trans l1, (hX.cell (World.block_lt_of_cell? wr _ l2)).trans l2, (hX.cell (World.block_lt_of_cell? wr _ l3)).trans l3, (hX.cell (World.block_lt_of_cell? wr _ m0)).trans m0, (hX.cell (World.block_lt_of_cell? wr _ m1)).trans m1, (hX.cell (World.block_lt_of_cell? wr _ m2)).trans m2, (hX.cell (World.block_lt_of_cell? wr _ m3)).trans m3⟩
        have bdr : Below wr.heap.size wr wr.drew := (Below.refl _ _).drew
        go_wp2_with (fail)
        go_region_held3 (fun w' => w'.cell? ⟨b, o + k * 4, none⟩ = some (.string s) ∧ w'.cell? ⟨b, o + k * 4 + 1, none⟩ = some (.int .i64 t) ∧ w'.cell? ⟨b, o + k * 4 + 2, none⟩ = some (.int .i64 d) ∧ w'.cell? ⟨b, o + k * 4 + 3, none⟩ = some (.slice xp xn xc) ∧ w'.cell? ⟨b', o' + k * 4, none⟩ = some (.string s') ∧ w'.cell? ⟨b', o' + k * 4 + 1, none⟩ = some (.int .i64 t') ∧ w'.cell? ⟨b', o' + k * 4 + 2, none⟩ = some (.int .i64 d') ∧ w'.cell? ⟨b', o' + k * 4 + 3, none⟩ = some (.slice yp yn yc)) (exact HK _ (by repeat (with_reducible (first | exact Below.refl _ _ | refine below_drewL ?_ | refine below_on ?_ b2)))) (first | (go_at_call 32; refine (C _ (in_below lx2 bdr) (in_below ly2 bdr)).mono ?_; rintro z w2 ⟨rfl, b2⟩))
        have hbel2 := below_on (below_on hbel bdr) b2
        clear b2 hbel bdr HK
        go_wp2_with (fail)
        go_roundw
        case rel => exact ⟨k + 1, by omega, by go_num, hmore, hbel2⟩
        case measure => simp [intOf]; omega
      · rw [decide_eq_false hq] at C
        have hr := hless.out hq
        subst hr
        clear hq hless hmore hR
        have HK : ∀ w', Below wr.heap.size wr w' → w'.cell? ⟨b, o + k * 4, none⟩ = some (.string s) ∧ w'.cell? ⟨b, o + k * 4 + 1, none⟩ = some (.int .i64 t) ∧ w'.cell? ⟨b, o + k * 4 + 2, none⟩ = some (.int .i64 d) ∧ w'.cell? ⟨b, o + k * 4 + 3, none⟩ = some (.slice xp xn xc) ∧ w'.cell? ⟨b', o' + k * 4, none⟩ = some (.string s') ∧ w'.cell? ⟨b', o' + k * 4 + 1, none⟩ = some (.int .i64 t') ∧ w'.cell? ⟨b', o' + k * 4 + 2, none⟩ = some (.int .i64 d') ∧ w'.cell? ⟨b', o' + k * 4 + 3, none⟩ = some (.slice yp yn yc) := fun w' hX => ⟨(hX.cell (World.block_lt_of_cell? wr _ l0)).trans l0, (hX.cell (World.block_lt_of_cell? wr _ l1)).trans l1, (hX.cell (World.block_lt_of_cell? wr _ l2)).trans l2, (hX.cell (World.block_lt_of_cell? wr _ l3)).trans l3, (hX.cell (World.block_lt_of_cell? wr _ m0)).trans m0, (hX.cell (World.block_lt_of_cell? wr _ m1)).trans m1, (hX.cell (World.block_lt_of_cell? wr _ m2)).trans m2, (hX.cell (World.block_lt_of_cell? wr _ m3)).trans m3⟩
        have bdr : Below wr.heap.size wr wr.drew := (Below.refl _ _).drew
        go_wp2_with (fail)
        go_region_held3 (fun w' => w'.cell? ⟨b, o + k * 4, none⟩ = some (.string s) ∧ w'.cell? ⟨b, o + k * 4 + 1, none⟩ = some (.int .i64 t) ∧ w'.cell? ⟨b, o + k * 4 + 2, none⟩ = some (.int .i64 d) ∧ w'.cell? ⟨b, o + k * 4 + 3, none⟩ = some (.slice xp xn xc) ∧ w'.cell? ⟨b', o' + k * 4, none⟩ = some (.string s') ∧ w'.cell? ⟨b', o' + k * 4 + 1, none⟩ = some (.int .i64 t') ∧ w'.cell? ⟨b', o' + k * 4 + 2, none⟩ = some (.int .i64 d') ∧ w'.cell? ⟨b', o' + k * 4 + 3, none⟩ = some (.slice yp yn yc)) (exact HK _ (by repeat (with_reducible (first | exact Below.refl _ _ | refine below_drewL ?_ | refine below_on ?_ b2)))) (first | (go_at_call 32; refine (C _ (in_below lx2 bdr) (in_below ly2 bdr)).mono ?_; rintro z w2 ⟨rfl, b2⟩))
        have hbel2 := below_on (below_on hbel bdr) b2
        clear b2 hbel bdr HK
        go_wp2_with (fail)
        go_ret
        exact ⟨rfl, hbel2⟩
    · have hkn : k = n := by omega
      subst hkn
      have hr : R = true := by
        rw [hR.out]
        refine decide_eq_true ?_
        have e := hsame.out
        rwa [show its.take k = its by rw [← hl, List.take_length], show its'.take k = its' by rw [← hl', List.take_length]] at e
      subst hr
      clear hR hsame
      go_wp2_with (fail)
      go_ret
      exact ⟨rfl, hbel⟩

theorem eqItemS_any (p p' : Option Addr) (n c n' c' : Nat) (its its' : List ItA) (w : World) (hn : n ≤ 1048576) (hl : its.length = n) (hl' : its'.length = n') (h : ItemsIn w p n its) (h' : ItemsIn w p' n' its') (li : ∀ x ∈ its, x.Lies w) (li' : ∀ x ∈ its', x.Lies w) :
    Calls Try.prog 35 #[.slice p n c, .slice p' n' c'] w fun e w' => e = .returned (.bool (decide (its.map ItA.con = its'.map ItA.con))) ∧ Below w.heap.size w w' := by
  by_cases e : n = n'
  · subst e
    exact eqItemS_same p p' n c c' its its' w hn hl hl' h h' li li'
  · have hR : decide (its.map ItA.con = its'.map ItA.con) = false := decide_eq_false fun k => e (by rw [← hl, ← hl', ← List.length_map (f := ItA.con), k, List.length_map])
    rw [hR]
    have hd : ((n : Int) != (n' : Int)) = true := by simp; omega
    clear hR e
    go_enter Try.func35, Try.ntmps35
    go_wp2_with (fail)
    go_ret
    exact ⟨rfl, .refl _ _⟩

end Go.Proofs.Ytggbmpgpopenoaa
