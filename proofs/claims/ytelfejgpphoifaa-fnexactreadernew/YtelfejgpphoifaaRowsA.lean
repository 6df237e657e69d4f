/-
  Lists of rows of bytes that come in as arguments, and what the laws' own functions do with them: how much they hold, a copy, whether two say the same. Conditions: rows that can be read.
-/
import Derived.Test.YtelfejgpphoifaaEq
import Derived.Test.YtelfejgpphoifaaTo
import Derived.Test.YtelfejgpphoifaaMarks
import Derived.Test.YtelfejgpphoifaaCells
import Derived.Deep.RegionHeld3
namespace Go.Proofs.Ytelfejgpphoifaa
open Go.RowKit
set_option maxRecDepth 100000

/-- A row of bytes as it lies: its slice, and its bytes. -/
structure RwA where
  p : Option Addr
  n : Nat
  c : Nat
  xs : List Int
instance : Inhabited RwA := ⟨⟨none, 0, 0, []⟩⟩
def RwA.val (x : RwA) : Value := .slice x.p x.n x.c
/-- What may be said of a row that can be read. -/
structure RwA.Ok (w : World) (x : RwA) : Prop where
  hn : x.n ≤ 9223372036854775807
  len : x.xs.length = x.n
  bytes : BytesIn w x.p x.n x.xs
  byte : ∀ y ∈ x.xs, 0 ≤ y ∧ y < 256
theorem RwA.Ok.on {w w' : World} {x : RwA} (h : x.Ok w) (b : Below w.heap.size w w') : x.Ok w' := ⟨h.hn, h.len, in_below h.bytes b, h.byte⟩
def RowsIn (w : World) (p : Option Addr) (n : Nat) (rs : List RwA) : Prop :=
  0 < n → ∃ b o, p = some ⟨b, o, none⟩ ∧ ∀ i, i < n → w.cell? ⟨b, o + i, none⟩ = some (rs.getD i default).val
theorem rowsIn_on {w w' : World} {p : Option Addr} {n : Nat} {rs : List RwA} (h : RowsIn w p n rs) (hb : Below w.heap.size w w') : RowsIn w' p n rs := by
  intro hn
  obtain ⟨b, o, rfl, hc⟩ := h hn
  refine ⟨b, o, rfl, fun i hi => ?_⟩
  have hlt : b < w.heap.size := World.block_lt_of_cell? w ⟨b, o + i, none⟩ (hc i hi)
  rw [hb.cell (p := ⟨b, o + i, none⟩) hlt]
  exact hc i hi
/-- A list of rows that can be read. -/
structure Rows (w : World) (p : Option Addr) (n : Nat) (rs : List RwA) : Prop where
  hn : n ≤ 9223372036854775807
  len : rs.length = n
  lie : RowsIn w p n rs
  ok : ∀ x ∈ rs, x.Ok w
theorem Rows.on {w w' : World} {p : Option Addr} {n : Nat} {rs : List RwA} (h : Rows w p n rs) (b : Below w.heap.size w w') : Rows w' p n rs := ⟨h.hn, h.len, rowsIn_on h.lie b, fun x hx => (h.ok x hx).on b⟩
theorem Rows.nil (w : World) (p : Option Addr) : Rows w p 0 [] := ⟨by omega, rfl, fun h => absurd h (Nat.lt_irrefl 0), fun x hx => by simp at hx⟩

theorem getD_memR {α : Type} [Inhabited α] {l : List α} {k : Nat} (h : k < l.length) : l.getD k default ∈ l := by
  rw [List.getD_eq_getElem?_getD, List.getElem?_eq_getElem h]; exact List.getElem_mem _
theorem take_getDR {α : Type} [Inhabited α] {l : List α} {k : Nat} (h : k < l.length) : l.take (k + 1) = l.take k ++ [l.getD k default] := by
  rw [List.take_add_one, List.getElem?_eq_getElem h]
  simp [List.getD_eq_getElem?_getD, List.getElem?_eq_getElem h]
/-- One of them. -/
theorem Rows.at {w : World} {p : Option Addr} {n : Nat} {rs : List RwA} (h : Rows w p n rs) {k : Nat} (hk : k < n) : ∃ b o x, p = some ⟨b, o, none⟩ ∧ w.cell? ⟨b, o + k, none⟩ = some (.slice x.p x.n x.c) ∧ rs.getD k default = x ∧ x.Ok w := by
  obtain ⟨b, o, e, hc⟩ := h.lie (by omega)
  exact ⟨b, o, _, e, hc k hk, rfl, h.ok _ (getD_memR (by rw [h.len]; exact hk))⟩

/-- They lie in blocks from lo on. -/
def FromR (lo : Nat) (p : Option Addr) (n : Nat) (rs : List RwA) : Prop := (0 < n → ∃ b o, p = some ⟨b, o, none⟩ ∧ lo ≤ b) ∧ ∀ x ∈ rs, 0 < x.n → ∃ b o, x.p = some ⟨b, o, none⟩ ∧ lo ≤ b
theorem FromR.mono {lo lo' : Nat} {p : Option Addr} {n : Nat} {rs : List RwA} (h : FromR lo p n rs) (hl : lo' ≤ lo) : FromR lo' p n rs :=
  ⟨fun k => let ⟨b, o, e, hb⟩ := h.1 k; ⟨b, o, e, Nat.le_trans hl hb⟩, fun x hx k => let ⟨b, o, e, hb⟩ := h.2 x hx k; ⟨b, o, e, Nat.le_trans hl hb⟩⟩
theorem in_set {w : World} {p : Option Addr} {n lo : Nat} {xs : List Int} (h : BytesIn w p n xs) (f : 0 < n → ∃ b o, p = some ⟨b, o, none⟩ ∧ lo ≤ b) {a : Addr} (ha : a.block < lo) (v : Value) : BytesIn (w.setCell a v) p n xs := by
  intro hn
  obtain ⟨b, o, rfl, hc⟩ := h hn
  obtain ⟨b', o', e, hb⟩ := f hn
  simp only [Option.some.injEq, Addr.mk.injEq, and_true] at e
  obtain ⟨rfl, rfl⟩ := e
  refine ⟨b, o, rfl, fun i hi => ?_⟩
  rw [World.cell?_setCell_other _ _ _ _ (by intro x; rw [x] at ha; simp only at ha; omega)]
  exact hc i hi
theorem Rows.set {w : World} {p : Option Addr} {n lo : Nat} {rs : List RwA} (h : Rows w p n rs) (f : FromR lo p n rs) {a : Addr} (ha : a.block < lo) (v : Value) : Rows (w.setCell a v) p n rs := by
  refine ⟨h.hn, h.len, fun hn => ?_, fun x hx => ?_⟩
  · obtain ⟨b, o, rfl, hc⟩ := h.lie hn
    obtain ⟨b', o', e, hb⟩ := f.1 hn
    simp only [Option.some.injEq, Addr.mk.injEq, and_true] at e
    obtain ⟨rfl, rfl⟩ := e
    refine ⟨b, o, rfl, fun i hi => ?_⟩
    rw [World.cell?_setCell_other _ _ _ _ (by intro x; rw [x] at ha; simp only at ha; omega)]
    exact hc i hi
  · have k := h.ok x hx
    exact ⟨k.hn, k.len, in_set k.bytes (f.2 x hx) ha v, k.byte⟩
theorem own_from {e : Nat} {w : World} {lo hi : Nat} {p : Option Addr} {n c : Nat} {xs : List Int} (h : Own e w lo hi (.slice p n c) n xs) : 0 < n → ∃ b o, p = some ⟨b, o, none⟩ ∧ lo ≤ b := by
  intro hn
  obtain ⟨g, rfl⟩ := owns_at h.1 hn
  exact ⟨g, 0, rfl, (h.1.lt g rfl).1⟩

theorem szByteS_any (p : Option Addr) (n c : Nat) (l : Int) (w : World) (hn : n ≤ 9223372036854775807) (hl : 0 ≤ l ∧ l ≤ 1048576) :
    Calls Try.prog 20 #[.slice p n c, .int .i64 l] w fun e w' => e = .returned (.int .i64 (if (n : Int) ≤ l then l - n else -1)) ∧ Below w.heap.size w w' := by
  by_cases h : (n : Int) ≤ l
  · rw [if_pos h]
    go_enter Try.func20, Try.ntmps20
    go_wp2_with (fail)
    go_ret
    exact ⟨rfl, .refl _ _⟩
  · rw [if_neg h]
    go_enter Try.func20, Try.ntmps20
    go_wp2_with (fail)
    go_ret
    exact ⟨rfl, .refl _ _⟩

/-- How much the rows hold. -/
def totR (rs : List RwA) : Nat := (rs.map fun x => x.n).sum
theorem totR_step (rs : List RwA) (k : Nat) (h : k < rs.length) : totR (rs.take (k + 1)) = totR (rs.take k) + (rs.getD k default).n := by
  unfold totR
  rw [take_getDR h, List.map_append, List.sum_append]
  simp
theorem totR_le (rs : List RwA) (k : Nat) : totR (rs.take k) ≤ totR rs := by
  unfold totR
  have e := congrArg (fun l => (l.map fun (x : RwA) => x.n).sum) (List.take_append_drop k rs)
  simp only [List.map_append, List.sum_append] at e
  omega
theorem totR_mem (rs : List RwA) (x : RwA) (h : x ∈ rs) : x.n ≤ totR rs := by
  induction rs with
  | nil => simp at h
  | cons y r ih =>
    have e : totR (y :: r) = y.n + totR r := by simp [totR]
    rcases List.mem_cons.1 h with rfl | h
    · omega
    · have := ih h
      omega
/-- What is left of a room by rows. -/
def szR (n : Nat) (rs : List RwA) (l : Int) : Int := if (n : Int) + totR rs ≤ l then l - n - totR rs else -1

set_option maxHeartbeats 4000000 in
theorem szByteSS_any (p : Option Addr) (n c : Nat) (rs : List RwA) (l : Int) (w : World) (h : Rows w p n rs) (hl0 : 0 ≤ l ∧ l ≤ 1048576) :
    Calls Try.prog 21 #[.slice p n c, .int .i64 l] w fun e w' => e = .returned (.int .i64 (szR n rs l)) ∧ Below w.heap.size w w' := by
  obtain ⟨R, hR⟩ : ∃ R : Int, R = szR n rs l := ⟨_, rfl⟩
  rw [← hR]
  replace hR : Hid (R = if (n : Int) + totR rs ≤ l then l - n - totR rs else -1) := hR
  have hn := h.hn
  have hl := h.len
  by_cases hnl : (n : Int) ≤ l
  · obtain ⟨l1, hl1⟩ : ∃ l1 : Int, l1 = l - n := ⟨_, rfl⟩
    have hl2 : 0 ≤ l1 ∧ l1 ≤ 1048576 := by omega
    have hl3 : ¬ l1 < 0 := by omega
    have hl4 : l - (n : Int) = l1 := hl1.symm
    replace hR : Hid (R = if (totR rs : Int) ≤ l1 then l1 - totR rs else -1) := by
      rw [Hid, hR.out]
      by_cases e : (totR rs : Int) ≤ l1
      · rw [if_pos e, if_pos (by omega)]; omega
      · rw [if_neg e, if_neg (by omega)]
    clear hl1
    go_enter Try.func21, Try.ntmps21
    go_wp2_with (fail)
    go_loopw [1, 5] (fun a i wr => ∃ k : Nat, k ≤ n ∧ i = .int .i64 k ∧ (∃ m : Int, a = .int .i64 m ∧ 0 ≤ m ∧ m ≤ 1048576 ∧ Hid (m = l1 - totR (rs.take k))) ∧ Below w.heap.size w wr) (fun _ i _ => n - (intOf i).toNat)
    case atStart => exact ⟨0, Nat.zero_le _, rfl, ⟨l1, rfl, hl2.1, hl2.2, by simp [Hid, totR]⟩, Below.refl _ _⟩
    case round =>
      obtain ⟨k, hk, rfl, ⟨m, rfl, hm0, hm1, hm⟩, hbel⟩ := hrel
      by_cases hlt : k < n
      · obtain ⟨b, o, x, rfl, c0, hx, okx⟩ := (h.on hbel).at hlt
        have hbx := okx.hn
        have hst := totR_step rs k (by omega)
        have hle := totR_le rs (k + 1)
        rw [hx] at hst
        obtain ⟨xp, xn, xc, xs⟩ := x
        dsimp only at c0 hbx hst
        have C := fun X => szByteS_any xp xn xc m X hbx ⟨hm0, hm1⟩
        clear h hx okx
        by_cases hfit : (xn : Int) ≤ m
        · rw [if_pos hfit] at C
          obtain ⟨m2, hm2⟩ : ∃ m2 : Int, m2 = m - xn := ⟨_, rfl⟩
          rw [← hm2] at C
          have hm3 : 0 ≤ m2 ∧ m2 ≤ 1048576 := by omega
          have hm4 : ¬ m2 < 0 := by omega
          have hnew : Hid (m2 = l1 - totR (rs.take (k + 1))) := by have := hm.out; rw [Hid]; omega
          clear hm2 hm hst hle hfit hbx
          go_wp2_with (fail)
          refine (C _).mono ?_
          rintro z w2 ⟨rfl, b2⟩
          have hbel2 := below_on hbel b2
          clear b2 hbel
          go_wp2_with (fail)
          go_roundw
          case rel => exact ⟨k + 1, by omega, by go_num, ⟨m2, rfl, hm3.1, hm3.2, hnew⟩, hbel2⟩
          case measure => simp [intOf]; omega
        · rw [if_neg hfit] at C
          have hr : R = -1 := by
            rw [hR.out, if_neg]
            have := hm.out
            omega
          subst hr
          clear hm hst hle hfit hbx hR
          go_wp2_with (fail)
          refine (C _).mono ?_
          rintro z w2 ⟨rfl, b2⟩
          have hbel2 := below_on hbel b2
          clear b2 hbel
          go_wp2_with (fail)
          go_ret
          exact ⟨rfl, hbel2⟩
      · have hkn : k = n := by omega
        subst hkn
        have hr : R = m := by
          have e := hm.out
          rw [← hl, List.take_length] at e
          rw [hR.out, if_pos (by omega)]
          omega
        subst hr
        clear hR hm
        go_wp2_with (fail)
        go_ret
        exact ⟨rfl, hbel⟩
  · have hr : R = -1 := by rw [hR.out, if_neg (by omega)]
    subst hr
    obtain ⟨l1, hl1⟩ : ∃ l1 : Int, l1 = l - n := ⟨_, rfl⟩
    have hl3 : l1 < 0 := by omega
    have hl4 : l - (n : Int) = l1 := hl1.symm
    have hl5 : -9223372036854775808 ≤ l1 := by omega
    clear hR hl1 h
    go_enter Try.func21, Try.ntmps21
    go_wp2_with (fail)
    go_ret
    exact ⟨rfl, .refl _ _⟩

theorem infoRow : (Try.prog.info? 22).map (fun i => (i.zero, i.size, i.bytes)) = some (some (.slice none 0 0), 1, 24) := by kernel_rfl

/-- Rows of one's own, in blocks behind g. -/
def Behind (w : World) (g : Nat) (x : RwA) : Prop := Own 5 w (g + 1) w.heap.size x.val x.n x.xs
theorem Behind.set {w : World} {g : Nat} {x : RwA} (h : Behind w g x) (i : Nat) (v : Value) : Behind (w.setCell ⟨g, i, none⟩ v) g x := by
  have hs : (w.setCell ⟨g, i, none⟩ v).heap.size = w.heap.size := by simp [World.setCell]
  refine ⟨h.1.kept (set_grown w g i v) ?_, fun k hk => by rw [hs]; exact h.2 k hk⟩
  rcases hb : x.val.ownBlock with _ | k
  · exact .inl rfl
  · right
    intro e
    cases e
    have := (h.1.lt g hb).1
    omega
theorem Behind.on {w w' : World} {g : Nat} {x : RwA} (h : Behind w g x) (b : Below w.heap.size w w') : Behind w' g x := ⟨owns_below h.1 b, fun k hk => Nat.lt_of_lt_of_le (h.2 k hk) b.size⟩
theorem made_rows (n : Nat) : (madeCells #[Value.slice none 0 0] n).toList = (List.replicate n (default : RwA)).map RwA.val := by
  rw [toList_madeCells_one, List.map_replicate]
  rfl

set_option maxHeartbeats 4000000 in
theorem toByteSS_any (p : Option Addr) (n c : Nat) (rs : List RwA) (w : World) (hn : n ≤ 1048576) (h : Rows w p n rs) (fit : ∀ x ∈ rs, x.n ≤ 1048576) :
    Calls Try.prog 24 #[.slice p n c] w fun e w' => ∃ p' c' rs', e = .returned (.slice p' n c') ∧ Rows w' p' n rs' ∧ FromR w.heap.size p' n rs' ∧ Hid (rs'.map RwA.xs = rs.map RwA.xs) ∧ Below w.heap.size w w' ∧ n ≤ c' := by
  obtain ⟨i0, hi, hz0, hz1, hz2⟩ := info_parts infoRow
  go_enter Try.func24, Try.ntmps24
  go_wp2_with (at_make; refine wpList_make_full _ rfl _ _ 23 rfl w.heap.size 22 i0 _ 1 Try.underlying23 hi hz0 hz1 _ _ _ _ n rfl rfl rfl rfl ?b2 ?b3 ?b4 ?_)
  case b2 => rw [hz2]; omega
  case b3 => unfold maxLen; omega
  case b4 => exact Nat.le_refl _
  intro w1 hown hgrow
  rw [made_rows n] at hown
  have hbel : Below w.heap.size w w1 := (Below.refl _ _).grown hgrow (Nat.le_refl _) (fun _ h => by cases h)
  clear hgrow
  obtain ⟨g, hg⟩ : ∃ g, g = w.heap.size := ⟨_, rfl⟩
  rw [← hg] at hown hbel ⊢
  have hl := h.len
  replace hg : Hid (g = w.heap.size) := hg
  go_wp2
  go_loopw [4] (fun i wr => ∃ k : Nat, k ≤ n ∧ i = .int .i64 k ∧ (∃ done : List RwA, done.length = k ∧ Hid (done.map RwA.xs = (rs.take k).map RwA.xs) ∧ (∀ x ∈ done, Behind wr g x) ∧ wr.ownsRow g 22 1 (.slice (some ⟨g, 0, none⟩) n n) n ((done ++ List.replicate (n - k) default).map RwA.val)) ∧ Below g w wr)
    (fun i _ => n - (intOf i).toNat)
  case atStart => exact ⟨0, Nat.zero_le _, rfl, ⟨[], rfl, rfl, fun x hx => by simp at hx, hown⟩, hbel⟩
  case round =>
    clear hown hbel
    obtain ⟨k, hk, rfl, ⟨done, hdl, hdc, hbh, hO⟩, hbel⟩ := hrel
    rw [hg.out] at hbel
    by_cases hlt : k < n
    · have hgo := hg.out
      obtain ⟨b, o, x, rfl, c0, hx, okx⟩ := (h.on hbel).at hlt
      have hxe : rs.take (k + 1) = rs.take k ++ [x] := by rw [take_getDR (by omega), hx]
      have hnx := fit x (hx ▸ getD_memR (by omega))
      obtain ⟨xp, xn, xc, xs⟩ := x
      replace hdc : Hid (done.map RwA.xs ++ [xs] = (rs.take (k + 1)).map RwA.xs) := by
        rw [Hid, hxe, List.map_append, hdc.out]; rfl
      dsimp only at c0 hnx
      have okb := okx.bytes
      have okl := okx.len
      dsimp only at okb okl
      have hgw : g < wr.heap.size := (hO.lt g rfl).2
      clear hgo hx hxe h okx fit
      go_wp2_with (fail)
      refine (toByteS_own xp xn xc xs _ hnx okl okb).mono ?_
      rintro z w2 ⟨p2, c2, rfl, r2, b2⟩
      have hgo := hg.out
      have hO2 := owns_below hO b2
      have hbh2 : ∀ x ∈ done, Behind w2 g x := fun x hx => (hbh x hx).on b2
      have hbel2 := below_on hbel b2
      have hb3 : Behind w2 g ⟨p2, xn, c2, xs⟩ := ⟨owns_mono r2.1 hgw, r2.2⟩
      have c1 : ∃ u, w2.cell? ⟨g, k, none⟩ = some u := by
        rw [hO2.cellAt k (by omega)]
        exact ⟨_, List.getElem?_eq_getElem (by simp; omega)⟩
      obtain ⟨u, c1⟩ := c1
      have f1 := hO2.frozenAt k
      have hO3 := (hO2.stored k (RwA.val ⟨p2, xn, c2, xs⟩)).1
      have hset : ((done ++ List.replicate (n - k) (default : RwA)).map RwA.val).set k (RwA.val ⟨p2, xn, c2, xs⟩) = ((done ++ [(⟨p2, xn, c2, xs⟩ : RwA)]) ++ List.replicate (n - (k + 1)) default).map RwA.val := by
        rw [← List.map_set, List.set_append_right _ _ (by omega), hdl, Nat.sub_self, show n - k = (n - (k + 1)) + 1 by omega, List.replicate_succ]
        simp
      rw [hset] at hO3
      have hbel3 := hbel2.setCell (p := ⟨g, k, none⟩) (by show w.heap.size ≤ g; omega) (RwA.val ⟨p2, xn, c2, xs⟩)
      have hbh3 : ∀ x ∈ done ++ [(⟨p2, xn, c2, xs⟩ : RwA)], Behind (w2.setCell ⟨g, k, none⟩ (RwA.val ⟨p2, xn, c2, xs⟩)) g x := fun x hx => by
        rcases List.mem_append.1 hx with hx | hx
        · exact (hbh2 x hx).set _ _
        · obtain rfl : x = ⟨p2, xn, c2, xs⟩ := by simpa using hx
          exact hb3.set _ _
      have hv : RwA.val ⟨p2, xn, c2, xs⟩ = .slice p2 xn c2 := rfl
      rw [hv] at hO3 hbel3 hbh3
      rw [← hg.out] at hbel3
      have hnew : Hid ((done ++ [(⟨p2, xn, c2, xs⟩ : RwA)]).map RwA.xs = (rs.take (k + 1)).map RwA.xs) := by
        rw [Hid, List.map_append, ← hdc.out]; rfl
      clear hgo hset hO2 hO hbel hbel2 b2 r2 hdc hbh hbh2 hb3 hv
      go_wp2_with (fail)
      go_roundw
      case rel => exact ⟨k + 1, by omega, by go_num, ⟨_, by simp [hdl], hnew, hbh3, hO3⟩, hbel3⟩
      case measure => simp [intOf]; omega
    · have hkn : k = n := by omega
      subst hkn
      rw [Nat.sub_self] at hO
      have hall : Hid (done.map RwA.xs = rs.map RwA.xs) := by rw [Hid, hdc.out, ← hl, List.take_length]
      have hR : Rows wr (some ⟨g, 0, none⟩) k done := by
        refine ⟨by omega, hdl, fun _ => ⟨g, 0, rfl, fun i hi => ?_⟩, fun x hx => ?_⟩
        · rw [Nat.zero_add, hO.cellAt i (by omega)]
          have hid : i < done.length := by omega
          simp [hid, List.getD_eq_getElem?_getD]
        · obtain ⟨xp, xn, xc, xs⟩ := x
          have hb := hbh _ hx
          have hb' : Own 5 wr (g + 1) wr.heap.size (.slice xp xn xc) xn xs := hb
          have hxs : xs ∈ rs.map RwA.xs := by rw [← hall.out]; exact List.mem_map.2 ⟨_, hx, rfl⟩
          obtain ⟨y, hy, rfl⟩ := List.mem_map.1 hxs
          have h1 := h.ok y hy
          exact ⟨by have := h1.hn; have := h1.len; have := hb'.len; show xn ≤ _; omega, hb'.len, hb'.bytes, h1.byte⟩
      have hF : FromR g (some ⟨g, 0, none⟩) k done := by
        refine ⟨fun _ => ⟨g, 0, rfl, Nat.le_refl _⟩, fun x hx h0 => ?_⟩
        have hb : Own 5 wr (g + 1) wr.heap.size (.slice x.p x.n x.c) x.n x.xs := hbh _ hx
        obtain ⟨b, o, e, hl⟩ := own_from hb h0
        exact ⟨b, o, e, by omega⟩
      clear hO hdc hbh h fit
      rw [← hg.out] at hbel
      go_wp2_with (fail)
      go_ret
      exact ⟨_, _, done, rfl, hR, hg.out ▸ hF, hall, hg.out ▸ hbel, Nat.le_refl _⟩

set_option maxHeartbeats 4000000 in
theorem eqByteSS_same (p p' : Option Addr) (n c c' : Nat) (rs rs' : List RwA) (w : World) (h : Rows w p n rs) (h' : Rows w p' n rs') :
    Calls Try.prog 28 #[.slice p n c, .slice p' n c'] w fun e w' => e = .returned (.bool (decide (rs.map RwA.xs = rs'.map RwA.xs))) ∧ Below w.heap.size w w' := by
  have hd : ((n : Int) != (n : Int)) = false := by simp
  have hn := h.hn
  have hl := h.len
  have hl' := h'.len
  obtain ⟨R, hR⟩ : ∃ R : Bool, R = decide (rs.map RwA.xs = rs'.map RwA.xs) := ⟨_, rfl⟩
  rw [← hR]
  replace hR : Hid (R = decide (rs.map RwA.xs = rs'.map RwA.xs)) := hR
  go_enter Try.func28, Try.ntmps28
  go_wp2_with (fail)
  go_loopw [5] (fun i wr => ∃ k : Nat, k ≤ n ∧ i = .int .i64 k ∧ Hid ((rs.take k).map RwA.xs = (rs'.take k).map RwA.xs) ∧ Below w.heap.size w wr) (fun i _ => n - (intOf i).toNat)
  case atStart => exact ⟨0, Nat.zero_le _, rfl, by simp [Hid], Below.refl _ _⟩
  case round =>
    obtain ⟨k, hk, rfl, hsame, hbel⟩ := hrel
    by_cases hlt : k < n
    · obtain ⟨b, o, x, rfl, l0, hx, lx⟩ := (h.on hbel).at hlt
      obtain ⟨b', o', y, rfl, m0, hy, ly⟩ := (h'.on hbel).at hlt
      have hmore : Hid (x.xs = y.xs → (rs.take (k + 1)).map RwA.xs = (rs'.take (k + 1)).map RwA.xs) := by
        intro e
        rw [take_getDR (by omega), take_getDR (by omega), hx, hy, List.map_append, List.map_append, hsame.out, List.map_singleton, List.map_singleton, e]
      have hless : Hid (x.xs ≠ y.xs → R = false) := by
        intro e
        rw [hR.out]
        refine decide_eq_false fun e2 => e ?_
        have e3 := congrArg (fun l => l.getD k []) e2
        simp only [List.getD_eq_getElem?_getD, List.getElem?_map, List.getElem?_eq_getElem (show k < rs.length by omega), List.getElem?_eq_getElem (show k < rs'.length by omega), Option.map_some, Option.getD_some] at e3
        rw [List.getD_eq_getElem?_getD, List.getElem?_eq_getElem (show k < rs.length by omega), Option.getD_some] at hx
        rw [List.getD_eq_getElem?_getD, List.getElem?_eq_getElem (show k < rs'.length by omega), Option.getD_some] at hy
        rw [← hx, ← hy]
        exact e3
      obtain ⟨xp, xn, xc, xs⟩ := x
      obtain ⟨yp, yn, yc, ys⟩ := y
      dsimp only at l0 m0 hmore hless
      have C := fun X (b1 : Below wr.heap.size wr X) => eqByteS_any xp yp xn yn xc yc xs ys X lx.hn lx.len ly.len (in_below lx.bytes b1) (in_below ly.bytes b1)
      have HK : ∀ X, Below wr.heap.size wr X → X.cell? ⟨b, o + k, none⟩ = some (.slice xp xn xc) ∧ X.cell? ⟨b', o' + k, none⟩ = some (.slice yp yn yc) := fun X hX => ⟨(hX.cell (World.block_lt_of_cell? wr _ l0)).trans l0, (hX.cell (World.block_lt_of_cell? wr _ m0)).trans m0⟩
      have bdr : Below wr.heap.size wr wr.drew := (Below.refl _ _).drew
      clear hx hy lx ly hsame h h' l0 m0
      by_cases hxy : xs = ys
      · have hd2 : decide (xs = ys) = true := decide_eq_true hxy
        have hm2 := hmore.out hxy
        replace hm2 : Hid ((rs.take (k + 1)).map RwA.xs = (rs'.take (k + 1)).map RwA.xs) := hm2
        rw [hd2] at C
        clear hmore hless hd2 hxy
        go_wp2_with (fail)
        go_region_held3 (fun w' => w'.cell? ⟨b, o + k, none⟩ = some (.slice xp xn xc) ∧ w'.cell? ⟨b', o' + k, none⟩ = some (.slice yp yn yc)) (exact HK _ (by repeat (with_reducible (first | exact Below.refl _ _ | refine Below.drew ?_ | refine below_on ?_ b2)))) (first | (go_at_call 14; refine (C _ bdr).mono ?_; rintro z w2 ⟨rfl, b2⟩))
        have hbel2 := below_on (below_on hbel bdr) b2
        clear b2 hbel bdr HK
        go_wp2_with (fail)
        go_roundw
        case rel => exact ⟨k + 1, by omega, by go_num, hm2, hbel2⟩
        case measure => simp [intOf]; omega
      · have hd2 : decide (xs = ys) = false := decide_eq_false hxy
        have hr := hless.out hxy
        subst hr
        rw [hd2] at C
        clear hmore hless hd2 hxy hR
        go_wp2_with (fail)
        go_region_held3 (fun w' => w'.cell? ⟨b, o + k, none⟩ = some (.slice xp xn xc) ∧ w'.cell? ⟨b', o' + k, none⟩ = some (.slice yp yn yc)) (exact HK _ (by repeat (with_reducible (first | exact Below.refl _ _ | refine Below.drew ?_ | refine below_on ?_ b2)))) (first | (go_at_call 14; refine (C _ bdr).mono ?_; rintro z w2 ⟨rfl, b2⟩))
        have hbel2 := below_on (below_on hbel bdr) b2
        clear b2 hbel bdr HK
        go_wp2_with (fail)
        go_ret
        exact ⟨rfl, hbel2⟩
    · have hkn : k = n := by omega
      subst hkn
      have hr : R = true := by
        rw [hR.out]
        refine decide_eq_true ?_
        have e := hsame.out
        rwa [show rs.take k = rs by rw [← hl, List.take_length], show rs'.take k = rs' by rw [← hl', List.take_length]] at e
      subst hr
      clear hR hsame
      go_wp2_with (fail)
      go_ret
      exact ⟨rfl, hbel⟩

theorem eqByteSS_any (p p' : Option Addr) (n c n' c' : Nat) (rs rs' : List RwA) (w : World) (h : Rows w p n rs) (h' : Rows w p' n' rs') :
    Calls Try.prog 28 #[.slice p n c, .slice p' n' c'] w fun e w' => e = .returned (.bool (decide (rs.map RwA.xs = rs'.map RwA.xs))) ∧ Below w.heap.size w w' := by
  by_cases e : n = n'
  · subst e
    exact eqByteSS_same p p' n c c' rs rs' w h h'
  · have hR : decide (rs.map RwA.xs = rs'.map RwA.xs) = false := decide_eq_false fun k => e (by rw [← h.len, ← h'.len, ← List.length_map (f := RwA.xs), k, List.length_map])
    rw [hR]
    have hd : ((n : Int) != (n' : Int)) = true := by simp; omega
    clear hR e h h'
    go_enter Try.func28, Try.ntmps28
    go_wp2_with (fail)
    go_ret
    exact ⟨rfl, .refl _ _⟩

end Go.Proofs.Ytelfejgpphoifaa
