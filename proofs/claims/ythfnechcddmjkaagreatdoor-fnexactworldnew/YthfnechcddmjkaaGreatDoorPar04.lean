/-
  Lists of rows of bytes that come in as arguments, and what the laws' own functions do with them: how much they hold, a copy, whether two say the same. Conditions: rows that can be read.
  The laws' own functions of a reader: how much it holds, a copy, whether two say the same. Conditions: a reader that can be read.
  The laws' own comparison of two readers. Conditions: readers that can be read.
  What the specification's Read answers, whatever it is given. Conditions: a reader and bytes that can be read.
  Whether a reader is right, as the specification tells it. Conditions: a reader that can be read.
-/
import Derived.Test.YthfnechcddmjkaaGreatDoorPar02
import Derived.Test.YthfnechcddmjkaaGreatDoorPar03
import Derived.Deep.RegionHeld3
namespace Go.Proofs.YthfnechcddmjkaaGreatDoor
open Go.RowKit
set_option maxRecDepth 100000

structure RwA where
  p : Option Addr
  n : Nat
  c : Nat
  xs : List Int
instance : Inhabited RwA := ⟨⟨none, 0, 0, []⟩⟩
def RwA.val (x : RwA) : Value := .slice x.p x.n x.c
structure RwA.Ok (w : World) (x : RwA) : Prop where
  hn : x.n ≤ 9223372036854775807
  len : x.xs.length = x.n
  bytes : BytesIn w x.p x.n x.xs
  byte : ∀ y ∈ x.xs, 0 ≤ y ∧ y < 256
theorem RwA.Ok.on {w w' : World} {x : RwA} (h : x.Ok w) (b : Below w.heap.size w w') : x.Ok w' := ⟨h.hn, h.len, in_below h.bytes b, h.byte⟩
def RowsIn (w : World) (p : Option Addr) (n : Nat) (rs : List RwA) : Prop :=
  0 < n → ∃ b o, p = some ⟨b, o, none⟩ ∧ ∀ i, i < n → w.cell? ⟨b, o + i, none⟩ = some (rs.getD i default).val
theorem rowsIn_on {w w' : World} {p : Option Addr} {n : Nat} {rs : List RwA} (h : RowsIn w p n rs) (hb : Below w.heap.size w w') : RowsIn w' p n rs := by
  intro hn
  obtain ⟨b, o, rfl, hc⟩ := h hn
  refine ⟨b, o, rfl, fun i hi => ?_⟩
  have hlt : b < w.heap.size := World.block_lt_of_cell? w ⟨b, o + i, none⟩ (hc i hi)
  rw [hb.cell (p := ⟨b, o + i, none⟩) hlt]
  exact hc i hi
structure Rows (w : World) (p : Option Addr) (n : Nat) (rs : List RwA) : Prop where
  hn : n ≤ 9223372036854775807
  len : rs.length = n
  lie : RowsIn w p n rs
  ok : ∀ x ∈ rs, x.Ok w
theorem Rows.on {w w' : World} {p : Option Addr} {n : Nat} {rs : List RwA} (h : Rows w p n rs) (b : Below w.heap.size w w') : Rows w' p n rs := ⟨h.hn, h.len, rowsIn_on h.lie b, fun x hx => (h.ok x hx).on b⟩
theorem Rows.nil (w : World) (p : Option Addr) : Rows w p 0 [] := ⟨by omega, rfl, fun h => absurd h (Nat.lt_irrefl 0), fun x hx => by simp at hx⟩

theorem getD_memR {α : Type} [Inhabited α] {l : List α} {k : Nat} (h : k < l.length) : l.getD k default ∈ l := by
  rw [List.getD_eq_getElem?_getD, List.getElem?_eq_getElem h]; exact List.getElem_mem _
theorem take_getDR {α : Type} [Inhabited α] {l : List α} {k : Nat} (h : k < l.length) : l.take (k + 1) = l.take k ++ [l.getD k default] := by
  rw [List.take_add_one, List.getElem?_eq_getElem h]
  simp [List.getD_eq_getElem?_getD, List.getElem?_eq_getElem h]
theorem Rows.at {w : World} {p : Option Addr} {n : Nat} {rs : List RwA} (h : Rows w p n rs) {k : Nat} (hk : k < n) : ∃ b o x, p = some ⟨b, o, none⟩ ∧ w.cell? ⟨b, o + k, none⟩ = some (.slice x.p x.n x.c) ∧ rs.getD k default = x ∧ x.Ok w := by
  obtain ⟨b, o, e, hc⟩ := h.lie (by omega)
  exact ⟨b, o, _, e, hc k hk, rfl, h.ok _ (getD_memR (by rw [h.len]; exact hk))⟩

def FromR (lo : Nat) (p : Option Addr) (n : Nat) (rs : List RwA) : Prop := (0 < n → ∃ b o, p = some ⟨b, o, none⟩ ∧ lo ≤ b) ∧ ∀ x ∈ rs, 0 < x.n → ∃ b o, x.p = some ⟨b, o, none⟩ ∧ lo ≤ b
theorem FromR.mono {lo lo' : Nat} {p : Option Addr} {n : Nat} {rs : List RwA} (h : FromR lo p n rs) (hl : lo' ≤ lo) : FromR lo' p n rs :=
  ⟨fun k => let ⟨b, o, e, hb⟩ := h.1 k; ⟨b, o, e, Nat.le_trans hl hb⟩, fun x hx k => let ⟨b, o, e, hb⟩ := h.2 x hx k; ⟨b, o, e, Nat.le_trans hl hb⟩⟩
theorem in_set {w : World} {p : Option Addr} {n lo : Nat} {xs : List Int} (h : BytesIn w p n xs) (f : 0 < n → ∃ b o, p = some ⟨b, o, none⟩ ∧ lo ≤ b) {a : Addr} (ha : a.block < lo) (v : Value) : BytesIn (w.setCell a v) p n xs := by
  intro hn
  obtain ⟨b, o, rfl, hc⟩ := h hn
  obtain ⟨b', o', e, hb⟩ := f hn
  simp only [Option.some.injEq, Addr.mk.injEq, and_true] at e
  obtain ⟨rfl, rfl⟩ := e
  refine ⟨b, o, rfl, fun i hi => ?_⟩
  rw [World.cell?_setCell_other _ _ _ _ (by intro x; rw [x] at ha; simp only at ha; omega)]
  exact hc i hi
theorem Rows.set {w : World} {p : Option Addr} {n lo : Nat} {rs : List RwA} (h : Rows w p n rs) (f : FromR lo p n rs) {a : Addr} (ha : a.block < lo) (v : Value) : Rows (w.setCell a v) p n rs := by
  refine ⟨h.hn, h.len, fun hn => ?_, fun x hx => ?_⟩
  · obtain ⟨b, o, rfl, hc⟩ := h.lie hn
    obtain ⟨b', o', e, hb⟩ := f.1 hn
    simp only [Option.some.injEq, Addr.mk.injEq, and_true] at e
    obtain ⟨rfl, rfl⟩ := e
    refine ⟨b, o, rfl, fun i hi => ?_⟩
    rw [World.cell?_setCell_other _ _ _ _ (by intro x; rw [x] at ha; simp only at ha; omega)]
    exact hc i hi
  · have k := h.ok x hx
    exact ⟨k.hn, k.len, in_set k.bytes (f.2 x hx) ha v, k.byte⟩

def totR (rs : List RwA) : Nat := (rs.map fun x => x.n).sum
def szR (n : Nat) (rs : List RwA) (l : Int) : Int := if (n : Int) + totR rs ≤ l then l - n - totR rs else -1

theorem infoRow : (Tryz.prog.info? 22).map (fun i => (i.zero, i.size, i.bytes)) = some (some (.slice none 0 0), 1, 24) := by kernel_rfl

def Behind (w : World) (g : Nat) (x : RwA) : Prop := Own 5 w (g + 1) w.heap.size x.val x.n x.xs
theorem Behind.set {w : World} {g : Nat} {x : RwA} (h : Behind w g x) (i : Nat) (v : Value) : Behind (w.setCell ⟨g, i, none⟩ v) g x := by
  have hs : (w.setCell ⟨g, i, none⟩ v).heap.size = w.heap.size := by simp [World.setCell]
  refine ⟨h.1.kept (set_grown w g i v) ?_, fun k hk => by rw [hs]; exact h.2 k hk⟩
  rcases hb : x.val.ownBlock with _ | k
  · exact .inl rfl
  · right
    intro e
    cases e
    have := (h.1.lt g hb).1
    omega
theorem Behind.on {w w' : World} {g : Nat} {x : RwA} (h : Behind w g x) (b : Below w.heap.size w w') : Behind w' g x := ⟨owns_below h.1 b, fun k hk => Nat.lt_of_lt_of_le (h.2 k hk) b.size⟩
theorem made_rows (n : Nat) : (madeCells #[Value.slice none 0 0] n).toList = (List.replicate n (default : RwA)).map RwA.val := by
  rw [toList_madeCells_one, List.map_replicate]
  rfl

set_option maxHeartbeats 4000000 in
theorem eqByteSS_same (p p' : Option Addr) (n c c' : Nat) (rs rs' : List RwA) (w : World) (h : Rows w p n rs) (h' : Rows w p' n rs') :
    Calls Tryz.prog 67 #[.slice p n c, .slice p' n c'] w fun e w' => e = .returned (.bool (decide (rs.map RwA.xs = rs'.map RwA.xs))) ∧ Below w.heap.size w w' := by
  have hd : ((n : Int) != (n : Int)) = false := by simp
  have hn := h.hn
  have hl := h.len
  have hl' := h'.len
  obtain ⟨R, hR⟩ : ∃ R : Bool, R = decide (rs.map RwA.xs = rs'.map RwA.xs) := ⟨_, rfl⟩
  rw [← hR]
  replace hR : Hid (R = decide (rs.map RwA.xs = rs'.map RwA.xs)) := hR
  go_enter Tryz.func67, Tryz.ntmps67
  go_wp2_with (fail)
  go_loopw [5] (fun i wr => ∃ k : Nat, k ≤ n ∧ i = .int .i64 k ∧ Hid ((rs.take k).map RwA.xs = (rs'.take k).map RwA.xs) ∧ Below w.heap.size w wr) (fun i _ => n - (intOf i).toNat)
  case atStart => exact ⟨0, Nat.zero_le _, rfl, by simp [Hid], Below.refl _ _⟩
  case round =>
    obtain ⟨k, hk, rfl, hsame, hbel⟩ := hrel
    by_cases hlt : k < n
    · obtain ⟨b, o, x, rfl, l0, hx, lx⟩ := (h.on hbel).at hlt
      obtain ⟨b', o', y, rfl, m0, hy, ly⟩ := (h'.on hbel).at hlt
      have hmore : Hid (x.xs = y.xs → (rs.take (k + 1)).map RwA.xs = (rs'.take (k + 1)).map RwA.xs) := by
        intro e
        rw [take_getDR (by omega), take_getDR (by omega), hx, hy, List.map_append, List.map_append, hsame.out, List.map_singleton, List.map_singleton, e]
      have hless : Hid (x.xs ≠ y.xs → R = false) := by
        intro e
        rw [hR.out]
        refine decide_eq_false fun e2 => e ?_
        have e3 := congrArg (fun l => l.getD k []) e2
        simp only [List.getD_eq_getElem?_getD, List.getElem?_map, List.getElem?_eq_getElem (show k < rs.length by omega), List.getElem?_eq_getElem (show k < rs'.length by omega), Option.map_some, Option.getD_some] at e3
        rw [List.getD_eq_getElem?_getD, List.getElem?_eq_getElem (show k < rs.length by omega), Option.getD_some] at hx
        rw [List.getD_eq_getElem?_getD, List.getElem?_eq_getElem (show k < rs'.length by omega), Option.getD_some] at hy
        rw [← hx, ← hy]
        exact e3
      obtain ⟨xp, xn, xc, xs⟩ := x
      obtain ⟨yp, yn, yc, ys⟩ := y
      dsimp only at l0 m0 hmore hless
      have C := fun X (b1 : Below wr.heap.size wr X) => eqByteS_any xp yp xn yn xc yc xs ys X lx.hn lx.len ly.len (in_below lx.bytes b1) (in_below ly.bytes b1)
      have HK : ∀ X, Below wr.heap.size wr X → X.cell? ⟨b, o + k, none⟩ = some (.slice xp xn xc) ∧ X.cell? ⟨b', o' + k, none⟩ = some (.slice yp yn yc) := fun X hX => ⟨(hX.cell (World.block_lt_of_cell? wr _ l0)).trans l0, (hX.cell (World.block_lt_of_cell? wr _ m0)).trans m0⟩
      have bdr : Below wr.heap.size wr wr.drew := (Below.refl _ _).drew
      clear hx hy lx ly hsame h h' l0 m0
      by_cases hxy : xs = ys
      · have hd2 : decide (xs = ys) = true := decide_eq_true hxy
        have hm2 := hmore.out hxy
        replace hm2 : Hid ((rs.take (k + 1)).map RwA.xs = (rs'.take (k + 1)).map RwA.xs) := hm2
        rw [hd2] at C
        clear hmore hless hd2 hxy
        go_wp2_with (fail)
        go_region_held3 (fun w' => w'.cell? ⟨b, o + k, none⟩ = some (.slice xp xn xc) ∧ w'.cell? ⟨b', o' + k, none⟩ = some (.slice yp yn yc)) (exact HK _ (by repeat (with_reducible (first | exact Below.refl _ _ | refine Below.drew ?_ | refine below_on ?_ b2)))) (first | (go_at_call 9; refine (C _ bdr).mono ?_; rintro z w2 ⟨rfl, b2⟩))
        have hbel2 := below_on (below_on hbel bdr) b2
        clear b2 hbel bdr HK
        go_wp2_with (fail)
        go_roundw
        case rel => exact ⟨k + 1, by omega, by go_num, hm2, hbel2⟩
        case measure => simp [intOf]; omega
      · have hd2 : decide (xs = ys) = false := decide_eq_false hxy
        have hr := hless.out hxy
        subst hr
        rw [hd2] at C
        clear hmore hless hd2 hxy hR
        go_wp2_with (fail)
        go_region_held3 (fun w' => w'.cell? ⟨b, o + k, none⟩ = some (.slice xp xn xc) ∧ w'.cell? ⟨b', o' + k, none⟩ = some (.slice yp yn yc)) (exact HK _ (by repeat (with_reducible (first | exact Below.refl _ _ | refine Below.drew ?_ | refine below_on ?_ b2)))) (first | (go_at_call 9; refine (C _ bdr).mono ?_; rintro z w2 ⟨rfl, b2⟩))
        have hbel2 := below_on (below_on hbel bdr) b2
        clear b2 hbel bdr HK
        go_wp2_with (fail)
        go_ret
        exact ⟨rfl, hbel2⟩
    · have hkn : k = n := by omega
      subst hkn
      have hr : R = true := by
        rw [hR.out]
        refine decide_eq_true ?_
        have e := hsame.out
        rwa [show rs.take k = rs by rw [← hl, List.take_length], show rs'.take k = rs' by rw [← hl', List.take_length]] at e
      subst hr
      clear hR hsame
      go_wp2_with (fail)
      go_ret
      exact ⟨rfl, hbel⟩

theorem eqByteSS_any (p p' : Option Addr) (n c n' c' : Nat) (rs rs' : List RwA) (w : World) (h : Rows w p n rs) (h' : Rows w p' n' rs') :
    Calls Tryz.prog 67 #[.slice p n c, .slice p' n' c'] w fun e w' => e = .returned (.bool (decide (rs.map RwA.xs = rs'.map RwA.xs))) ∧ Below w.heap.size w w' := by
  by_cases e : n = n'
  · subst e
    exact eqByteSS_same p p' n c c' rs rs' w h h'
  · have hR : decide (rs.map RwA.xs = rs'.map RwA.xs) = false := decide_eq_false fun k => e (by rw [← h.len, ← h'.len, ← List.length_map (f := RwA.xs), k, List.length_map])
    rw [hR]
    have hd : ((n : Int) != (n' : Int)) = true := by simp; omega
    clear hR e h h'
    go_enter Tryz.func67, Tryz.ntmps67
    go_wp2_with (fail)
    go_ret
    exact ⟨rfl, .refl _ _⟩

end Go.Proofs.YthfnechcddmjkaaGreatDoor

namespace Go.Proofs.YthfnechcddmjkaaGreatDoor
open Go.RowKit
set_option maxRecDepth 100000

structure RdA where
  s : RwA
  e : Int
  p : Option Addr
  n : Nat
  c : Nat
  seen : List RwA
  q : Option Addr
  m : Nat
  d : Nat
  got : List RwA
def RdA.cells (x : RdA) : Array Value := #[.slice x.s.p x.s.n x.s.c, .int .i64 x.e, .slice x.p x.n x.c, .slice x.q x.m x.d]
def RdA.con (x : RdA) : List Int × Int × List (List Int) × List (List Int) := (x.s.xs, x.e, x.seen.map RwA.xs, x.got.map RwA.xs)
structure RdA.Ok (w : World) (x : RdA) : Prop where
  seed : x.s.Ok w
  he : -9223372036854775808 ≤ x.e ∧ x.e ≤ 9223372036854775807
  seen : Rows w x.p x.n x.seen
  got : Rows w x.q x.m x.got
theorem RdA.Ok.on {w w' : World} {x : RdA} (h : x.Ok w) (b : Below w.heap.size w w') : x.Ok w' := ⟨h.seed.on b, h.he, h.seen.on b, h.got.on b⟩
structure RdA.Fit (x : RdA) : Prop where
  s : x.s.n ≤ 1048576
  n : x.n ≤ 1048576
  seen : ∀ y ∈ x.seen, y.n ≤ 1048576
  m : x.m ≤ 1048576
  got : ∀ y ∈ x.got, y.n ≤ 1048576

end Go.Proofs.YthfnechcddmjkaaGreatDoor

namespace Go.Proofs.YthfnechcddmjkaaGreatDoor
open Go.RowKit
set_option maxRecDepth 100000

set_option maxHeartbeats 4000000 in
theorem eqReader_any (x y : RdA) (w : World) (okx : x.Ok w) (oky : y.Ok w) :
    Calls Tryz.prog 25 #[.agg x.cells, .agg y.cells] w fun z w' => z = .returned (.bool (decide (x.con = y.con))) ∧ Below w.heap.size w w' := by
  obtain ⟨R, hR⟩ : ∃ R : Bool, R = decide (x.con = y.con) := ⟨_, rfl⟩
  rw [← hR]
  replace hR : Hid (R = decide (x.con = y.con)) := hR
  obtain ⟨⟨sp, sn, sc, sx⟩, e, p, n, c, seen, q, m, d, got⟩ := x
  obtain ⟨⟨tp, tn, tc, tx⟩, e', p', n', c', seen', q', m', d', got'⟩ := y
  have E1 : RdA.cells ⟨⟨sp, sn, sc, sx⟩, e, p, n, c, seen, q, m, d, got⟩ = #[.slice sp sn sc, .int .i64 e, .slice p n c, .slice q m d] := rfl
  have E2 : RdA.cells ⟨⟨tp, tn, tc, tx⟩, e', p', n', c', seen', q', m', d', got'⟩ = #[.slice tp tn tc, .int .i64 e', .slice p' n' c', .slice q' m' d'] := rfl
  rw [E1, E2]
  clear E1 E2
  replace hR : Hid (R = decide ((sx, e, seen.map RwA.xs, got.map RwA.xs) = (tx, e', seen'.map RwA.xs, got'.map RwA.xs))) := hR
  have s1 := okx.seed
  have s2 := oky.seed
  have a1 := okx.seen
  have a2 := oky.seen
  have g1 := okx.got
  have g2 := oky.got
  dsimp only at s1 s2 a1 a2 g1 g2
  clear okx oky
  have kA : ∀ o1 o2, Below w.heap.size w ((w.alloc o1).alloc o2) := fun o1 o2 => made_below _ _ (made_below _ _ (Below.refl _ _))
  have sz : ∀ (W : World) o, (W.alloc o).heap.size = W.heap.size + 1 := fun W o => by simp
  have C1 := fun X (h : Below w.heap.size w X) => eqByteS_any sp tp sn tn sc tc sx tx X s1.hn s1.len s2.len (in_below s1.bytes h) (in_below s2.bytes h)
  have C2 := fun X (h : Below w.heap.size w X) => eqByteSS_any p p' n c n' c' seen seen' X (a1.on h) (a2.on h)
  have C3 := fun X (h : Below w.heap.size w X) => eqByteSS_any q q' m d m' d' got got' X (g1.on h) (g2.on h)
  clear s1 s2 a1 a2 g1 g2
  go_enter Tryz.func25, Tryz.ntmps25
  go_wp2_with (fail)
  refine (C1 _ (kA _ _)).mono ?_
  rintro z w1 ⟨rfl, b1⟩
  have D1 := (Cells.made w _ _).on (made_below _ _ b1)
  have D2 := (Cells.made (w.alloc _) _ _).on b1
  have k1 := made_below _ _ (made_below _ _ b1)
  rw [sz] at D2
  clear b1 C1 kA sz
  by_cases h1 : sx = tx
  · rw [decide_eq_true h1]
    have c1 : w1.cell? ⟨w.heap.size, 1, none⟩ = some (.int .i64 e) := (D1.2 1).1
    have d1 : w1.cell? ⟨w.heap.size + 1, 1, none⟩ = some (.int .i64 e') := (D2.2 1).1
    have c2 : w1.cell? ⟨w.heap.size, 2, none⟩ = some (.slice p n c) := (D1.2 2).1
    have d2 : w1.cell? ⟨w.heap.size + 1, 2, none⟩ = some (.slice p' n' c') := (D2.2 2).1
    by_cases h2 : e = e'
    · subst h2
      have hb : (e != e) = false := by simp
      replace h1 : Hid (sx = tx) := h1
      go_wp2_with (fail)
      refine (C2 _ k1).mono ?_
      rintro z w2 ⟨rfl, b2⟩
      have F1 := D1.on b2
      have F2 := D2.on b2
      have k2 := below_on k1 b2
      have c3 : w2.cell? ⟨w.heap.size, 3, none⟩ = some (.slice q m d) := (F1.2 3).1
      have d3 : w2.cell? ⟨w.heap.size + 1, 3, none⟩ = some (.slice q' m' d') := (F2.2 3).1
      clear b2 C2 c1 d1 c2 d2 D1 D2 k1 F1 F2
      by_cases h3 : seen.map RwA.xs = seen'.map RwA.xs
      · rw [decide_eq_true h3]
        replace h3 : Hid (seen.map RwA.xs = seen'.map RwA.xs) := h3
        go_wp2_with (fail)
        refine (C3 _ k2).mono ?_
        rintro z w3 ⟨rfl, b3⟩
        have k3 := below_on k2 b3
        clear b3 k2 C3 c3 d3
        by_cases h4 : got.map RwA.xs = got'.map RwA.xs
        · rw [decide_eq_true h4]
          have hr : R = true := by rw [hR.out, h1.out, h3.out, h4]; simp
          subst hr
          clear hR h4
          go_wp2_with (fail)
          go_ret
          exact ⟨rfl, k3⟩
        · rw [decide_eq_false h4]
          have hr : R = false := by rw [hR.out]; exact decide_eq_false fun k => h4 (by simp only [Prod.mk.injEq] at k; exact k.2.2.2)
          subst hr
          clear hR h4
          go_wp2_with (fail)
          go_ret
          exact ⟨rfl, k3⟩
      · rw [decide_eq_false h3]
        have hr : R = false := by rw [hR.out]; exact decide_eq_false fun k => h3 (by simp only [Prod.mk.injEq] at k; exact k.2.2.1)
        subst hr
        clear hR h3 C3
        go_wp2_with (fail)
        go_ret
        exact ⟨rfl, k2⟩
    · have hb : (e != e') = true := by simp [h2]
      have hr : R = false := by rw [hR.out]; exact decide_eq_false fun k => h2 (by simp only [Prod.mk.injEq] at k; exact k.2.1)
      subst hr
      clear hR h2 h1 C2 C3 c2 d2
      go_wp2_with (fail)
      go_ret
      exact ⟨rfl, k1⟩
  · rw [decide_eq_false h1]
    have hr : R = false := by rw [hR.out]; exact decide_eq_false fun k => h1 (by simp only [Prod.mk.injEq] at k; exact k.1)
    subst hr
    clear hR h1 C2 C3
    go_wp2_with (fail)
    go_ret
    exact ⟨rfl, k1⟩

end Go.Proofs.YthfnechcddmjkaaGreatDoor

namespace Go.Proofs.YthfnechcddmjkaaGreatDoor
open Go.RowKit
set_option maxRecDepth 100000

theorem same_rows {xs ys : List Int} (hx : ∀ x ∈ xs, 0 ≤ x ∧ x < 256) (hy : ∀ y ∈ ys, 0 ≤ y ∧ y < 256) : ((strOfNums xs).toList == (strOfNums ys).toList) = decide (xs = ys) := by
  have h := text_eq hx hy
  have e : ∀ b : ByteArray, b.toList = b.data.toList := fun b => ByteArray.toList_eq b
  rw [e, e]
  by_cases k : xs = ys
  · rw [decide_eq_true k, beq_iff_eq]; exact h.2 k
  · rw [decide_eq_false k, beq_eq_false_iff_ne]; exact fun z => k (h.1 z)
def amongB (rs : List RwA) (b : List Int) : Bool := decide (b ∈ rs.map RwA.xs)
theorem among_step {rs : List RwA} {k : Nat} {x : RwA} {b : List Int} (hk : k < rs.length) (hx : rs.getD k default = x) (h : x.xs ≠ b) (hp : b ∉ (rs.take k).map RwA.xs) : b ∉ (rs.take (k + 1)).map RwA.xs := by
  rw [take_getDR hk, List.map_append, hx]
  intro m
  rcases List.mem_append.1 m with m | m
  · exact hp m
  · simp at m; exact h m.symm

end Go.Proofs.YthfnechcddmjkaaGreatDoor

namespace Go.Proofs.YthfnechcddmjkaaGreatDoor
open Go.RowKit
set_option maxRecDepth 100000

def okAtR (rs gs : List RwA) (i : Nat) : Prop := ((rs.getD i default).n : Int) ≤ 1560 ∧ ((gs.getD i default).n : Int) ≤ 200 ∧ (rs.getD i default).xs ∉ (rs.take i).map RwA.xs
def ROk (x : RdA) : Prop := x.s.n = 32 ∧ (0 ≤ x.e ∧ x.e ≤ 40) ∧ x.n ≤ 20 ∧ x.m = x.n ∧ ∀ i, i < x.n → okAtR x.seen x.got i
noncomputable def rB (x : RdA) : Bool := @decide (ROk x) (Classical.propDecidable _)
theorem rB_true {x : RdA} (h : ROk x) : rB x = true := by unfold rB; exact @decide_eq_true _ (Classical.propDecidable _) h
theorem rB_false {x : RdA} (h : ¬ ROk x) : rB x = false := by unfold rB; exact @decide_eq_false _ (Classical.propDecidable _) h

theorem take_memR {rs : List RwA} {j k : Nat} {x : RwA} (hj : j < k) (hk : k ≤ rs.length) (h : rs.getD j default = x) : x ∈ rs.take k := by
  have hjl : j < (rs.take k).length := by rw [List.length_take]; omega
  rw [← h, List.getD_eq_getElem?_getD, ← List.getElem?_take_of_lt (l := rs) hj, List.getElem?_eq_getElem hjl]
  exact List.getElem_mem _

set_option maxHeartbeats 8000000 in
theorem specReaderOk_any (x : RdA) (w : World) (ok : x.Ok w) :
    Calls Tryz.prog 50 #[.agg x.cells] w fun z w' => z = .returned (.bool (rB x)) ∧ Below w.heap.size w w' := by
  obtain ⟨⟨sp, sn, sc, sx⟩, e, p, n, c, seen, q, m, d, got⟩ := x
  have E1 : RdA.cells ⟨⟨sp, sn, sc, sx⟩, e, p, n, c, seen, q, m, d, got⟩ = #[.slice sp sn sc, .int .i64 e, .slice p n c, .slice q m d] := rfl
  rw [E1]
  obtain ⟨R, hR⟩ : ∃ R : Bool, R = rB ⟨⟨sp, sn, sc, sx⟩, e, p, n, c, seen, q, m, d, got⟩ := ⟨_, rfl⟩
  rw [← hR]
  have hno : Hid (¬ (sn = 32 ∧ (0 ≤ e ∧ e ≤ 40) ∧ n ≤ 20 ∧ m = n) → R = false) := fun h => by rw [hR]; exact rB_false fun k => h ⟨k.1, k.2.1, k.2.2.1, k.2.2.2.1⟩
  have hat : Hid (∀ i, i < n → ¬ okAtR seen got i → R = false) := fun i hi h => by rw [hR]; exact rB_false fun k => h (k.2.2.2.2 i hi)
  have hall : Hid (sn = 32 ∧ (0 ≤ e ∧ e ≤ 40) ∧ n ≤ 20 ∧ m = n → (∀ i, i < n → okAtR seen got i) → R = true) := fun h k => by rw [hR]; exact rB_true ⟨h.1, h.2.1, h.2.2.1, h.2.2.2, k⟩
  have rows := ok.seen
  have rows2 := ok.got
  have hn := ok.seed.hn
  have he := ok.he
  dsimp only at rows rows2 hn he
  have hn1 := rows.hn
  have hn2 := rows2.hn
  clear ok E1 hR
  have CI := l1In_any e 0 40
  by_cases h1 : sn = 32
  · by_cases h2 : 0 ≤ e ∧ e ≤ 40
    · rw [decide_eq_true h2] at CI
      by_cases h3 : n ≤ 20
      · have h3' : ¬ (20 < (n : Int)) := by omega
        by_cases h4 : m = n
        · have hd : ((n : Int) != (n : Int)) = false := by simp
          replace hall := hall.out ⟨h1, h2, h3, h4⟩
          replace hall : Hid ((∀ i, i < n → okAtR seen got i) → R = true) := hall
          subst h1 h4
          clear hno h2 he
          go_enter Tryz.func50, Tryz.ntmps50
          go_wp2_with (first | (go_at_call 51; refine (CI _).mono ?_; rintro z w2 ⟨rfl, rfl⟩))
          have hlen := rows.len
          have hlen2 := rows2.len
          go_loopw [3] (fun i wr => ∃ k : Nat, k ≤ m ∧ i = .int .i64 k ∧ Hid (∀ j, j < k → okAtR seen got j) ∧ Cells wr w.heap.size #[.slice sp 32 sc, .int .i64 e, .slice p m c, .slice q m d] ∧ Below w.heap.size w wr) (fun i _ => m - (intOf i).toNat)
          case atStart => exact ⟨0, Nat.zero_le _, rfl, fun j hj => absurd hj (Nat.not_lt_zero _), Cells.made w _ _, made_below _ _ (Below.refl _ _)⟩
          case round =>
            obtain ⟨k, hk, rfl, hdone, hC, hbel⟩ := hrel
            have c2 : wr.cell? ⟨w.heap.size, 2, none⟩ = some (.slice p m c) := (hC.2 2).1
            have c3 : wr.cell? ⟨w.heap.size, 3, none⟩ = some (.slice q m d) := (hC.2 3).1
            by_cases hlt : k < m
            · obtain ⟨b0, o0, y, rfl, m0, hy, ly⟩ := (rows2.on hbel).at hlt
              obtain ⟨b, o, x, rfl, l0, hx, lx⟩ := (rows.on hbel).at hlt
              have lxn := lx.hn
              have lyn := ly.hn
              have hok : Hid (okAtR seen got k ↔ (x.n : Int) ≤ 1560 ∧ (y.n : Int) ≤ 200 ∧ x.xs ∉ (seen.take k).map RwA.xs) := by rw [Hid, okAtR, hx, hy]
              obtain ⟨xp, xn, xc, xs⟩ := x
              obtain ⟨yp, yn, yc, ys⟩ := y
              dsimp only at l0 m0 lxn lyn hok
              by_cases g1 : (xn : Int) ≤ 1560
              · have g1' : ¬ 1560 < (xn : Int) := by omega
                by_cases g2 : (yn : Int) ≤ 200
                · have g2' : ¬ 200 < (yn : Int) := by omega
                  replace hok : Hid (okAtR seen got k ↔ xs ∉ (seen.take k).map RwA.xs) := ⟨fun h => (hok.out.1 h).2.2, fun h => hok.out.2 ⟨g1, g2, h⟩⟩
                  go_wp2_with (fail)
                  go_loopw [4] (fun i wj => ∃ j : Nat, j ≤ k ∧ i = .int .i64 j ∧ Hid (xs ∉ (seen.take j).map RwA.xs) ∧ Cells wj w.heap.size #[.slice sp 32 sc, .int .i64 e, .slice (some ⟨b, o, none⟩) m c, .slice (some ⟨b0, o0, none⟩) m d] ∧ Below w.heap.size w wj) (fun i _ => k - (intOf i).toNat)
                  case atStart => exact ⟨0, Nat.zero_le _, rfl, by simp [Hid], hC, hbel⟩
                  case round =>
                    clear hC hbel c2 c3 l0 m0 lx ly hy
                    obtain ⟨j, hj, rfl, hnot, hC, hbel⟩ := hrel
                    by_cases hjk : j < k
                    · obtain ⟨b', o', z, e1, n0, hz, lz⟩ := (rows.on hbel).at (show j < m by omega)
                      simp only [Option.some.injEq, Addr.mk.injEq, and_true] at e1
                      obtain ⟨rfl, rfl⟩ := e1
                      obtain ⟨b', o', x2, e1, l0, hx2, lx⟩ := (rows.on hbel).at hlt
                      simp only [Option.some.injEq, Addr.mk.injEq, and_true] at e1
                      obtain ⟨rfl, rfl⟩ := e1
                      rw [hx] at hx2
                      subst hx2
                      dsimp only at l0
                      have hmem : Hid (z.xs = xs → R = false) := fun q => hat.out k hlt fun h => hok.out.1 h (List.mem_map.2 ⟨z, take_memR hjk (by omega) hz, q⟩)
                      have hst : Hid (z.xs ≠ xs → xs ∉ (seen.take (j + 1)).map RwA.xs) := fun q => among_step (by omega) hz q hnot.out
                      obtain ⟨zp, zn, zc, zs⟩ := z
                      dsimp only at n0 hmem hst
                      have c2 : wr.cell? ⟨w.heap.size, 2, none⟩ = some (.slice (some ⟨b, o, none⟩) m c) := (hC.2 2).1
                      have CS := fun X (b1 : Below wr.heap.size wr X) => specSame_any zp xp zn xn zc xc zs xs X lz.len lx.len (in_below lz.bytes b1) (in_below lx.bytes b1)
                      have HK : ∀ X, Below wr.heap.size wr X → X.cell? ⟨w.heap.size, 2, none⟩ = some (.slice (some ⟨b, o, none⟩) m c) ∧ X.cell? ⟨b, o + j, none⟩ = some (.slice zp zn zc) ∧ X.cell? ⟨b, o + k, none⟩ = some (.slice xp xn xc) := fun X hX => ⟨(hX.cell hC.1).trans c2, (hX.cell (World.block_lt_of_cell? wr _ n0)).trans n0, (hX.cell (World.block_lt_of_cell? wr _ l0)).trans l0⟩
                      have hjm : j < m := by omega
                      have hjm2 : (j : Int) < (m : Int) := by omega
                      have bdr : Below wr.heap.size wr wr.drew := (Below.refl _ _).drew
                      have same := same_rows lz.byte lx.byte
                      dsimp only at same CS
                      rw [same] at CS
                      by_cases hxy : zs = xs
                      · have hr := hmem.out hxy
                        rw [decide_eq_true hxy] at CS
                        subst hr
                        clear hmem hst hat hall hdone hok hx hz lx lz same hnot rows rows2 hxy n0 l0
                        go_wp2_with (fail)
                        go_region_held3 (fun w' => w'.cell? ⟨w.heap.size, 2, none⟩ = some (.slice (some ⟨b, o, none⟩) m c) ∧ w'.cell? ⟨b, o + j, none⟩ = some (.slice zp zn zc) ∧ w'.cell? ⟨b, o + k, none⟩ = some (.slice xp xn xc)) (exact HK _ (by repeat (with_reducible (first | exact Below.refl _ _ | refine Below.drew ?_ | refine below_on ?_ b2)))) (first | (go_at_call 91; refine (CS _ bdr).mono ?_; rintro z w2 ⟨rfl, b2⟩))
                        have hbel2 := below_on (below_on hbel bdr) b2
                        clear b2 hbel bdr HK
                        go_wp2_with (fail)
                        go_ret
                        exact ⟨rfl, hbel2⟩
                      · have hst2 := hst.out hxy
                        replace hst2 : Hid (xs ∉ (seen.take (j + 1)).map RwA.xs) := hst2
                        rw [decide_eq_false hxy] at CS
                        clear hmem hst hat hall hdone hok hx hz lx lz same hnot rows rows2 hxy n0 l0
                        go_wp2_with (fail)
                        go_region_held3 (fun w' => w'.cell? ⟨w.heap.size, 2, none⟩ = some (.slice (some ⟨b, o, none⟩) m c) ∧ w'.cell? ⟨b, o + j, none⟩ = some (.slice zp zn zc) ∧ w'.cell? ⟨b, o + k, none⟩ = some (.slice xp xn xc)) (exact HK _ (by repeat (with_reducible (first | exact Below.refl _ _ | refine Below.drew ?_ | refine below_on ?_ b2)))) (first | (go_at_call 91; refine (CS _ bdr).mono ?_; rintro z w2 ⟨rfl, b2⟩))
                        have hbel2 := below_on (below_on hbel bdr) b2
                        have hC2 := (hC.on bdr).on b2
                        clear b2 hbel bdr HK hC
                        go_wp2_with (fail)
                        go_roundw
                        case rel => exact ⟨j + 1, by omega, by go_num, hst2, hC2, hbel2⟩
                        case measure => simp [intOf]; omega
                    · have hjk' : j = k := by omega
                      subst hjk'
                      have hnew : Hid (∀ l, l < j + 1 → okAtR seen got l) := fun l hl => by
                        rcases Nat.lt_succ_iff_lt_or_eq.1 hl with e | e
                        · exact hdone.out l e
                        · rw [e]; exact hok.out.2 hnot.out
                      clear hdone hok hnot hat hall hx
                      go_wp2_with (fail)
                      go_roundw
                      case rel => exact ⟨j + 1, by omega, by go_num, hnew, hC, hbel⟩
                      case measure => simp [intOf]; omega
                · have g2' : 200 < (yn : Int) := by omega
                  have hr := hat.out k hlt fun h => g2 (hok.out.1 h).2.1
                  subst hr
                  clear hat hall hdone hok hx hy lx ly g2
                  go_wp2_with (fail)
                  go_ret
                  exact ⟨rfl, hbel⟩
              · have g1' : 1560 < (xn : Int) := by omega
                have hr := hat.out k hlt fun h => g1 (hok.out.1 h).1
                subst hr
                clear hat hall hdone hok hx hy lx ly g1
                go_wp2_with (fail)
                go_ret
                exact ⟨rfl, hbel⟩
            · have hkn : k = m := by omega
              subst hkn
              have hr := hall.out hdone.out
              subst hr
              clear hat hall hdone rows rows2
              go_wp2_with (fail)
              go_ret
              exact ⟨rfl, hbel⟩
        · have hd : ((m : Int) != (n : Int)) = true := by simp; omega
          have hr := hno.out fun k => h4 k.2.2.2
          subst hr
          subst h1
          clear hno hat hall h2 he h4
          go_enter Tryz.func50, Tryz.ntmps50
          go_wp2_with (first | (go_at_call 51; refine (CI _).mono ?_; rintro z w2 ⟨rfl, rfl⟩))
          go_ret
          exact ⟨rfl, made_below _ _ (Below.refl _ _)⟩
      · have h3' : 20 < (n : Int) := by omega
        have hr := hno.out fun k => h3 k.2.2.1
        subst hr
        subst h1
        clear hno hat hall h2 he h3
        go_enter Tryz.func50, Tryz.ntmps50
        go_wp2_with (first | (go_at_call 51; refine (CI _).mono ?_; rintro z w2 ⟨rfl, rfl⟩))
        go_ret
        exact ⟨rfl, made_below _ _ (Below.refl _ _)⟩
    · rw [decide_eq_false h2] at CI
      have hr := hno.out fun k => h2 k.2.1
      subst hr
      subst h1
      clear hno hat hall h2 he
      go_enter Tryz.func50, Tryz.ntmps50
      go_wp2_with (first | (go_at_call 51; refine (CI _).mono ?_; rintro z w2 ⟨rfl, rfl⟩))
      go_ret
      exact ⟨rfl, made_below _ _ (Below.refl _ _)⟩
  · have hd : ((sn : Int) != 32) = true := by simp; omega
    have hr := hno.out fun k => h1 k.1
    subst hr
    clear hno hat hall he h1 CI
    go_enter Tryz.func50, Tryz.ntmps50
    go_wp2_with (fail)
    go_ret
    exact ⟨rfl, made_below _ _ (Below.refl _ _)⟩

end Go.Proofs.YthfnechcddmjkaaGreatDoor
