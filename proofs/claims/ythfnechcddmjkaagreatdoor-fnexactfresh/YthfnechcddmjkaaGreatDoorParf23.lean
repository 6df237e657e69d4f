/-
  Rows of items of one's own: what lies there, that it stays, one of them told anew. Conditions: none beyond each fact's own.
  The laws' own copy of a list of items. Conditions: items that lie there, as many as a law hands over.
  The laws' own functions of lists of items: whether two say the same, their size. Conditions: items that lie there.
  The laws' own mark as a text. Condition: a number above 0 that is not great.
  The laws' marks in rows, and in lists of structs: only cells of one's own turn. Conditions: lists in blocks of one's own, numbers that are not great.
  The laws' own functions of a post and of a reader: how much it holds, a copy, whether two say the same, marks. Conditions: what can be read; parts in blocks of one's own, one behind the other.
  The laws' own functions of a world: how much it holds, a copy, whether two say the same, marks. Conditions: what can be read; parts in blocks of one's own, one behind the other.
  A world, a post, a reader that is an argument, by its cells. No conditions beyond what a law's row says of its argument.
-/
import Derived.Test.YthfnechcddmjkaaGreatDoorParf06
import Derived.Test.YthfnechcddmjkaaGreatDoorParf04
import Derived.OneCell
import Derived.Deep.RegionHeld3
import Derived.Test.YthfnechcddmjkaaGreatDoorParf05
import Derived.Test.YthfnechcddmjkaaGreatDoorParf22
import Derived.Lib.SmallJoins
import Derived.Deep.Slices
namespace Go.Proofs.YthfnechcddmjkaaGreatDoor
open Go.RowKit
set_option maxRecDepth 100000

def ItA.slice (x : ItA) : Value := .slice x.p x.n x.c
def ItA.con (x : ItA) : ByteArray × Int × Int × List Int := (x.s, x.t, x.d, x.xs)
theorem ItA.vals_length (x : ItA) : x.vals.length = 4 := rfl
def flatI (its : List ItA) : List Value := its.flatMap ItA.vals
theorem flatI_cons (x : ItA) (r : List ItA) : flatI (x :: r) = x.vals ++ flatI r := by simp [flatI]
theorem flatI_at (its : List ItA) (i j : Nat) (hj : j < 4) (hi : i < its.length) : (flatI its)[i * 4 + j]? = (its.getD i default).vals[j]? := by
  induction its generalizing i with
  | nil => simp at hi
  | cons x r ih =>
    rw [flatI_cons]
    cases i with
    | zero => rw [List.getElem?_append_left (by rw [ItA.vals_length]; omega)]; simp
    | succ i =>
      rw [List.getElem?_append_right (by rw [ItA.vals_length]; omega), ItA.vals_length, show (i + 1) * 4 + j - 4 = i * 4 + j by omega, ih i (by simpa using hi)]
      simp
theorem flatI_set (its : List ItA) (i : Nat) (x : ItA) (hi : i < its.length) :
    ((((flatI its).set (i * 4) (.string x.s)).set (i * 4 + 1) (.int .i64 x.t)).set (i * 4 + 2) (.int .i64 x.d)).set (i * 4 + 3) (.slice x.p x.n x.c) = flatI (its.set i x) := by
  induction its generalizing i with
  | nil => simp at hi
  | cons y r ih =>
    cases i with
    | zero => simp [flatI_cons, ItA.vals]
    | succ i =>
      have := ih i (by simpa using hi)
      rw [List.set_cons_succ, flatI_cons, flatI_cons, ← this]
      have e : ∀ (l : List Value) (k : Nat) (v : Value), (y.vals ++ l).set ((i + 1) * 4 + k) v = y.vals ++ l.set (i * 4 + k) v := fun l k v => by
        rw [List.set_append_right _ _ (by rw [ItA.vals_length]; omega), ItA.vals_length, show (i + 1) * 4 + k - 4 = i * 4 + k by omega]
      have e0 := fun l v => e l 0 v
      simp only [Nat.add_zero] at e0
      rw [e0, e, e, e]

structure OwnItems (w : World) (lo hi : Nat) (v : Value) (n : Nat) (its : List ItA) : Prop where
  len : its.length = n
  row : w.ownsRow lo 84 4 v n (flatI its)
  top : ∀ k, v.ownBlock = some k → k < hi
  bytes : ∀ x ∈ its, Own 5 w lo hi x.slice x.n x.xs
  apart : ∀ x ∈ its, x.slice.ownBlock = none ∨ x.slice.ownBlock ≠ v.ownBlock
  pair : its.Pairwise (fun x y => x.slice.ownBlock = none ∨ x.slice.ownBlock ≠ y.slice.ownBlock)

theorem OwnItems.on {w w' : World} {lo hi : Nat} {v : Value} {n : Nat} {its : List ItA} (h : OwnItems w lo hi v n its) (b : Below w.heap.size w w') : OwnItems w' lo hi v n its :=
  ⟨h.len, owns_below h.row b, h.top, fun x hx => (h.bytes x hx).on b, h.apart, h.pair⟩
theorem Own.wide {e : Nat} {w : World} {lo hi lo' hi' : Nat} {v : Value} {n : Nat} {xs : List Int} (h : Own e w lo hi v n xs) (h1 : lo' ≤ lo) (h2 : hi ≤ hi') : Own e w lo' hi' v n xs := ⟨owns_mono h.1 h1, fun k hk => Nat.lt_of_lt_of_le (h.2 k hk) h2⟩
theorem OwnItems.wide {w : World} {lo hi lo' hi' : Nat} {v : Value} {n : Nat} {its : List ItA} (h : OwnItems w lo hi v n its) (h1 : lo' ≤ lo) (h2 : hi ≤ hi') : OwnItems w lo' hi' v n its :=
  ⟨h.len, owns_mono h.row h1, fun k hk => Nat.lt_of_lt_of_le (h.top k hk) h2, fun x hx => (h.bytes x hx).wide h1 h2, h.apart, h.pair⟩
theorem OwnItems.items {w : World} {lo hi : Nat} {p : Option Addr} {c n : Nat} {its : List ItA} (h : OwnItems w lo hi (.slice p n c) n its) : ItemsIn w p n its := by
  intro hn
  rcases h.row.2 with ⟨_, h0⟩ | ⟨g, cap, cur, hv, _, _⟩
  · omega
  · simp only [Value.slice.injEq] at hv
    obtain ⟨rfl, _, rfl⟩ := hv
    refine ⟨g, 0, rfl, fun i j u hi hu => ?_⟩
    have hj : j < 4 := (List.getElem?_eq_some_iff.1 hu).1
    rw [Nat.zero_add, h.row.cellAt (i * 4 + j) (by omega), flatI_at its i j hj (by rw [h.len]; exact hi)]
    exact hu

structure ItA.Fit (x : ItA) : Prop where
  hs : x.s.size ≤ 1048576
  ht : -9223372036854775808 ≤ x.t ∧ x.t ≤ 9223372036854775807
  hd : -9223372036854775808 ≤ x.d ∧ x.d ≤ 9223372036854775807
  hn : x.xs.length ≤ 1048576
  byte : ∀ y ∈ x.xs, 0 ≤ y ∧ y < 256

def setItem (w : World) (g k : Nat) (x : ItA) : World := (((w.setCell ⟨g, k * 4, none⟩ (.string x.s)).setCell ⟨g, k * 4 + 1, none⟩ (.int .i64 x.t)).setCell ⟨g, k * 4 + 2, none⟩ (.int .i64 x.d)).setCell ⟨g, k * 4 + 3, none⟩ (.slice x.p x.n x.c)
theorem setItem_grown (w : World) (g k : Nat) (x : ItA) : w.grownBy (setItem w g k x) (some g) :=
  (((set_grown w g _ _).trans (set_grown _ g _ _)).trans (set_grown _ g _ _)).trans (set_grown _ g _ _)
theorem setItem_row {w : World} {lo g n cap k : Nat} {its : List ItA} (x : ItA) (h : w.ownsRow lo 84 4 (.slice (some ⟨g, 0, none⟩) n cap) n (flatI its)) (hk : k < its.length) :
    (setItem w g k x).ownsRow lo 84 4 (.slice (some ⟨g, 0, none⟩) n cap) n (flatI (its.set k x)) := by
  rw [← flatI_set its k x hk]
  exact ((((h.stored (k * 4) _).1.stored (k * 4 + 1) _).1.stored (k * 4 + 2) _).1.stored (k * 4 + 3) _).1
theorem OwnItems.set {w : World} {lo hi g n cap k : Nat} {its : List ItA} {x : ItA} (h : OwnItems w lo hi (.slice (some ⟨g, 0, none⟩) n cap) n its) (hk : k < n) (ho : Own 5 w lo hi x.slice x.n x.xs)
    (hg : x.slice.ownBlock = none ∨ x.slice.ownBlock ≠ some g) (hap : ∀ y ∈ its, y.slice.ownBlock = none ∨ y.slice.ownBlock ≠ x.slice.ownBlock) : OwnItems (setItem w g k x) lo hi (.slice (some ⟨g, 0, none⟩) n cap) n (its.set k x) := by
  have hgr := setItem_grown w g k x
  have mem : ∀ y ∈ its.set k x, y ∈ its ∨ y = x := fun y hy => List.mem_or_eq_of_mem_set hy
  have sym : ∀ y ∈ its, x.slice.ownBlock = none ∨ x.slice.ownBlock ≠ y.slice.ownBlock := fun y hy => by
    rcases hap y hy with e | e
    · rw [e]
      cases x.slice.ownBlock <;> simp
    · exact .inr (Ne.symm e)
  refine ⟨by simpa using h.len, setItem_row x h.row (by rw [h.len]; exact hk), h.top, fun y hy => ?_, fun y hy => ?_, ?_⟩
  · rcases mem y hy with hy | rfl
    · exact ⟨(h.bytes y hy).1.kept hgr (h.apart y hy), (h.bytes y hy).2⟩
    · exact ⟨ho.1.kept hgr hg, ho.2⟩
  · rcases mem y hy with hy | rfl
    · exact h.apart y hy
    · exact hg
  · rw [List.pairwise_iff_getElem]
    intro i j hi hj hij
    simp only [List.length_set] at hi hj
    rw [List.getElem_set, List.getElem_set]
    split
    · split
      · omega
      · exact sym _ (List.getElem_mem _)
    · split
      · exact hap _ (List.getElem_mem _)
      · exact (List.pairwise_iff_getElem.1 h.pair) i j hi hj hij

end Go.Proofs.YthfnechcddmjkaaGreatDoor

namespace Go.Proofs.YthfnechcddmjkaaGreatDoor
open Go.RowKit
set_option maxRecDepth 100000

end Go.Proofs.YthfnechcddmjkaaGreatDoor

namespace Go.Proofs.YthfnechcddmjkaaGreatDoor
open Go.RowKit
set_option maxRecDepth 100000

structure ItA.Lies (w : World) (x : ItA) : Prop where
  hn : x.n ≤ 9223372036854775807
  len : x.xs.length = x.n
  bytes : BytesIn w x.p x.n x.xs
theorem ItA.Ok.lies {w : World} {x : ItA} (h : x.Ok w) : x.Lies w := ⟨h.hn, h.len, h.bytes⟩
theorem ItA.Lies.on {w w' : World} {x : ItA} (h : x.Lies w) (b : Below w.heap.size w w') : x.Lies w' := ⟨h.hn, h.len, in_below h.bytes b⟩
theorem OwnItems.lies {w : World} {lo hi : Nat} {v : Value} {n : Nat} {its : List ItA} (h : OwnItems w lo hi v n its) (hm : ∀ x ∈ its, x.xs.length ≤ 1048576) : ∀ x ∈ its, x.Lies w := fun x hx => by
  have hb : Own 5 w lo hi (.slice x.p x.n x.c) x.n x.xs := h.bytes x hx
  exact ⟨by have := hm x hx; have := hb.len; omega, hb.len, hb.bytes⟩

theorem ItemsIn.at {w : World} {b o n : Nat} {its : List ItA} (h : ∀ i j v, i < n → (its.getD i default).vals[j]? = some v → w.cell? ⟨b, o + i * 4 + j, none⟩ = some v) {k : Nat} (hk : k < n) {x : ItA} (hx : its.getD k default = x) :
    w.cell? ⟨b, o + k * 4, none⟩ = some (.string x.s) ∧ w.cell? ⟨b, o + k * 4 + 1, none⟩ = some (.int .i64 x.t) ∧ w.cell? ⟨b, o + k * 4 + 2, none⟩ = some (.int .i64 x.d) ∧ w.cell? ⟨b, o + k * 4 + 3, none⟩ = some (.slice x.p x.n x.c) := by
  subst hx
  exact ⟨h k 0 _ hk rfl, h k 1 _ hk rfl, h k 2 _ hk rfl, h k 3 _ hk rfl⟩

end Go.Proofs.YthfnechcddmjkaaGreatDoor

namespace Go.Proofs.YthfnechcddmjkaaGreatDoor
open Go.RowKit
set_option maxRecDepth 100000

def mtD (k : Nat) (out : ByteArray) : ByteArray := if _h : k = 0 then out else mtD (k / 10) (strOfNums [((48 + k % 10 : Nat) : Int)] ++ out)
termination_by k
decreasing_by omega
def mtS (k : Nat) : ByteArray := ({ data := #[109] } : ByteArray) ++ mtD k { data := #[] }
theorem mtD_zero (out : ByteArray) : mtD 0 out = out := by rw [mtD]; simp
theorem mtD_pos (k : Nat) (out : ByteArray) (h : 0 < k) : mtD k out = mtD (k / 10) (strOfNums [((48 + k % 10 : Nat) : Int)] ++ out) := by
  rw [mtD, dif_neg (by omega)]

set_option maxHeartbeats 4000000 in
theorem markText_any (K : Nat) (w : World) (h0 : 0 < K) (h1 : K ≤ 100000000) :
    Calls Tryz.prog 72 #[.int .i64 (K : Int)] w fun e w' => e = .returned (.string (mtS K)) ∧ Below w.heap.size w w' := by
  obtain ⟨T, hT⟩ : ∃ T, T = mtD K { data := #[] } := ⟨_, rfl⟩
  have hS : Hid (mtS K = ({ data := #[109] } : ByteArray) ++ T) := by rw [Hid, hT]; rfl
  replace hT : Hid (T = mtD K { data := #[] }) := hT
  go_enter Tryz.func72, Tryz.ntmps72
  go_wp2_with (fail)
  go_loopw [0, 3] (fun i a wr => ∃ (k : Nat) (out : ByteArray), i = .int .i64 k ∧ a = .string out ∧ Hid (mtD k out = T ∧ k * 10 ^ out.size ≤ K) ∧ out.size ≤ 9 ∧ k ≤ K ∧ Below w.heap.size w wr) (fun i _ _ => (intOf i).toNat)
  case atStart => exact ⟨K, _, rfl, rfl, ⟨hT.out.symm, Nat.le_of_eq (Nat.mul_one K)⟩, Nat.zero_le _, Nat.le_refl _, Below.refl _ _⟩
  case round =>
    obtain ⟨k, out, rfl, rfl, hm, hsz, hkK, hbel⟩ := hrel
    by_cases hk : k = 0
    · subst hk
      have e : out = T := by have := hm.out.1; rwa [mtD_zero] at this
      subst e
      clear hm hT
      go_wp2_with (fail)
      go_ret
      exact ⟨by rw [hS.out]; rfl, hbel⟩
    · have hpos : (0 : Int) < (k : Int) := by omega
      have h8 : out.size ≤ 8 := by
        rcases Nat.lt_or_ge out.size 9 with h | h
        · omega
        · have h2 := hm.out.2
          have h3 : 10 ^ 9 ≤ 10 ^ out.size := Nat.pow_le_pow_right (by decide) h
          have h4 : 1 * 10 ^ out.size ≤ k * 10 ^ out.size := Nat.mul_le_mul_right _ (by omega)
          omega
      have e48 : ((48 + k % 10 : Nat) : Int) = 48 + (k : Int) % 10 := by omega
      obtain ⟨u, hu⟩ : ∃ u : Int, u = 48 + (k : Int) % 10 := ⟨_, rfl⟩
      obtain ⟨w1, hw1⟩ : ∃ w1, w1 = wr.alloc (.cells #[.int .u8 (48 + (k : Int) % 10)] 5) := ⟨_, rfl⟩
      have b1 : Below wr.heap.size wr w1 := by rw [hw1]; exact made_below _ _ (Below.refl _ _)
      have C1 : Cells w1 wr.heap.size #[.int .u8 u] := by rw [hw1, hu]; exact Cells.made _ _ _
      have hcv := text_of (P := Tryz.prog) (w := w1) (p := some ⟨wr.heap.size, 0, none⟩) (n := 1) (xs := [u]) (fun _ => ⟨wr.heap.size, 0, rfl, fun i hi => by (have e : i = 0 := by omega); subst e; exact (C1.2 0).1⟩) rfl 1 22 5 9 Tryz.underlying22 Tryz.underlying5 Tryz.underlying9
      obtain ⟨S1, hS1⟩ : ∃ S1, S1 = strOfNums [u] := ⟨_, rfl⟩
      have hs1 : S1.size = 1 := by rw [hS1]; rfl
      rw [← hS1] at hcv
      have hnew : Hid (mtD (k / 10) (S1 ++ out) = T ∧ (k / 10) * 10 ^ (S1 ++ out).size ≤ K) := by
        have h1 := hm.out.1
        rw [mtD_pos k out (by omega), e48, ← hu, ← hS1] at h1
        refine ⟨h1, ?_⟩
        have h2 := hm.out.2
        rw [ByteArray.size_append, hs1, Nat.add_comm 1, Nat.pow_succ, ← Nat.mul_assoc, Nat.mul_right_comm]
        exact Nat.le_trans (Nat.mul_le_mul_right _ (Nat.div_mul_le_self k 10)) h2
      have hsz2 : (S1 ++ out).size ≤ 9 := by rw [ByteArray.size_append, hs1]; omega
      have hbel1 := below_on hbel b1
      obtain ⟨k2, hk2⟩ : ∃ k2, k2 = k / 10 := ⟨_, rfl⟩
      rw [← hk2] at hnew
      have hk10 : (k : Int) / 10 = (k2 : Int) := by omega
      have hk11 : Int.tdiv (k : Int) 10 = (k2 : Int) := by rw [Int.tdiv_eq_ediv_of_nonneg (by omega)]; exact hk10
      have hk2l : k2 < k := by omega
      have hk2K : k2 ≤ K := by omega
      replace hw1 : Hid (wr.alloc (.cells #[.int .u8 (48 + (k : Int) % 10)] 5) = w1) := hw1.symm
      clear hS1 hm e48 hu C1 b1 hbel hT hk2
      go_wp2_with (rw [hw1.out])
      go_roundw
      case rel => exact ⟨k2, _, rfl, rfl, hnew, hsz2, hk2K, hbel1⟩
      case measure => simp [intOf]; omega

end Go.Proofs.YthfnechcddmjkaaGreatDoor

namespace Go.Proofs.YthfnechcddmjkaaGreatDoor
open Go.RowKit
set_option maxRecDepth 100000

set_option maxHeartbeats 2000000 in
theorem markByteS_sh (lo hi : Nat) (p : Option Addr) (n c : Nat) (k : Int) (w : World) (hn : n ≤ 1099511627776) (hk : 0 ≤ k) (hk2 : k ≤ 1099511627776) (h : ShB w lo hi p n) :
    Calls Tryz.prog 10 #[.slice p n c, .int .i64 k] w fun e w' => e = .returned (.int .i64 (k + n)) ∧ Wn lo hi w w' ∧ ∀ g, g < w.heap.size → (0 < n → ∃ b, p = some ⟨b, 0, none⟩ ∧ b ≠ g) → w'.heap[g]? = w.heap[g]? := by
  go_enter Tryz.func10, Tryz.ntmps10
  go_wp2
  go_loopw [1, 5] (fun q i wr => ∃ j : Nat, j ≤ n ∧ i = .int .i64 j ∧ q = .int .i64 (k + j) ∧ Wn lo hi w wr ∧ ∀ g, g < w.heap.size → (0 < n → ∃ b, p = some ⟨b, 0, none⟩ ∧ b ≠ g) → wr.heap[g]? = w.heap[g]?)
    (fun _ i _ => n - (intOf i).toNat)
  case atStart => exact ⟨0, Nat.zero_le _, rfl, by simp, Wn.refl _ _ _, fun _ _ _ => rfl⟩
  case round =>
    obtain ⟨j, hj, rfl, rfl, hW, hG⟩ := hrel
    by_cases hlt : j < n
    · obtain ⟨b, rfl, h1, h2, hc⟩ := (h.shy hW) (by omega)
      obtain ⟨⟨v, hv⟩, hfz⟩ := hc j hlt
      have hS := hW.set ⟨b, j, none⟩ (.int .u8 ((k + (j : Int)) % 256)) ⟨h1, h2⟩
      have hG2 : ∀ g, g < w.heap.size → (0 < n → ∃ b', some (⟨b, 0, none⟩ : Addr) = some ⟨b', 0, none⟩ ∧ b' ≠ g) → (wr.setCell ⟨b, j, none⟩ (.int .u8 ((k + (j : Int)) % 256))).heap[g]? = w.heap[g]? := fun g hg hq => by
        obtain ⟨b', e, hne⟩ := hq (by omega)
        simp only [Option.some.injEq, Addr.mk.injEq, and_true] at e
        subst e
        rw [Below.heap_setCell wr ⟨b, j, none⟩ _ g (fun x => hne x.symm)]
        exact hG g hg hq
      clear hc hG hW
      go_wp2
      go_roundw
      case rel => exact ⟨j + 1, by omega, by go_num, by go_num, hS, hG2⟩
      case measure => simp [intOf]; omega
    · have hjn : j = n := by omega
      subst hjn
      go_wp2
      go_ret
      exact ⟨rfl, hW, hG⟩

def KeepSl (w : World) (g c n : Nat) (xs : List Rc) : Prop := ∀ i jj r, i < n → (xs.getD i [])[jj]? = some (Fd.r r) → w.cell? ⟨g, i * c + jj, none⟩ = some (.slice r.p r.n r.c)
theorem KeepSl.block {w w' : World} {g c n : Nat} {xs : List Rc} (h : KeepSl w g c n xs) (e : w'.heap[g]? = w.heap[g]?) : KeepSl w' g c n xs := fun i jj r hi hr => by
  rw [World.cell?_of_block (w := w) e]
  exact h i jj r hi hr
theorem mul_apart {i j a b c : Nat} (h : i * c + a = j * c + b) (ha : a < c) (hb : b < c) : i = j ∧ a = b := by
  have h1 := congrArg (· / c) h
  have h2 := congrArg (· % c) h
  simp only [Nat.mul_comm i c, Nat.mul_comm j c, Nat.mul_add_div (show 0 < c by omega), Nat.mul_add_mod, Nat.mod_eq_of_lt ha, Nat.mod_eq_of_lt hb, Nat.div_eq_of_lt ha, Nat.div_eq_of_lt hb, Nat.add_zero] at h1 h2
  exact ⟨h1, h2⟩
theorem KeepSl.set {w : World} {g c n : Nat} {xs : List Rc} (h : KeepSl w g c n xs) (hl : ∀ x ∈ xs, x.length = c) (hn : xs.length = n) (k j : Nat) (hj : j < c) (hs : ∀ r, (xs.getD k [])[j]? ≠ some (Fd.r r)) (v : Value) : KeepSl (w.setCell ⟨g, k * c + j, none⟩ v) g c n xs := fun i jj r hi hr => by
  have hjj : jj < c := by
    have h1 := (List.getElem?_eq_some_iff.1 hr).1
    rwa [hl _ (getD_memF (by omega))] at h1
  rw [World.cell?_setCell_other _ _ _ _ (fun e => by
    simp only [Addr.mk.injEq, true_and, and_true] at e
    obtain ⟨rfl, rfl⟩ := mul_apart e hj hjj
    exact hs r hr)]
  exact h i jj r hi hr

set_option maxHeartbeats 8000000 in
theorem markItemS_sh (lo hi : Nat) (p : Option Addr) (n c k0 : Nat) (xs : List Rc) (w : World) (hk0 : 0 < k0) (hkk : k0 + costF xs ≤ 100000000) (h : RecP w lo hi 4 ItemSh p n xs) :
    Calls Tryz.prog 70 #[.slice p n c, .int .i64 (k0 : Int)] w fun e w' => e = .returned (.int .i64 ((k0 + costF xs : Nat) : Int)) ∧ Wn lo hi w w' := by
  have hn := h.hn
  have hlen := h.len
  go_enter Tryz.func70, Tryz.ntmps70
  go_wp2_with (fail)
  go_loopw [1, 5] (fun a i wr => ∃ k : Nat, k ≤ n ∧ i = .int .i64 k ∧ (∃ m : Nat, a = .int .i64 m ∧ 0 < m ∧ m ≤ 100000000 ∧ Hid (m = k0 + costF (xs.take k))) ∧ Wn lo hi w wr ∧ ∀ g, p = some ⟨g, 0, none⟩ → KeepSl wr g 4 n xs) (fun _ i _ => n - (intOf i).toNat)
  case atStart => exact ⟨0, Nat.zero_le _, rfl, ⟨k0, rfl, hk0, by omega, by simp [Hid, costF]⟩, Wn.refl _ _ _, fun g hg i jj r hi hr => by
    obtain ⟨g', e, _, _, _, hsl, _⟩ := h.lie (by omega)
    rw [hg] at e
    simp only [Option.some.injEq, Addr.mk.injEq, and_true] at e
    subst e
    exact hsl i jj _ hi (by rw [Rc.vals, List.getElem?_map, hr]; rfl)⟩
  case round =>
    obtain ⟨k, hk, rfl, ⟨m, rfl, hm0, hm1, hm⟩, hW, hKS⟩ := hrel
    by_cases hlt : k < n
    · skip
      obtain ⟨x, hx⟩ : ∃ x, xs.getD k [] = x := ⟨_, rfl⟩
      have hxm : x ∈ xs := hx ▸ getD_memF (by omega)
      have hstep := costF_step xs k (by omega)
      have hle := costF_le xs (k + 1)
      rw [hx] at hstep
      obtain ⟨g, rfl, h1, h2, hcells, hsl, hap⟩ := h.lie (by omega)
      have hS := h.sh x hxm
      obtain ⟨s, t, d, ⟨pa, na, ca, xsa⟩, rfl⟩ := hS
      have hcost : Rc.cost [Fd.s s, Fd.i t, Fd.i d, Fd.r ⟨pa, na, ca, xsa⟩] = 3 + na := by simp only [Rc.cost, List.map_cons, List.map_nil, List.sum_cons, List.sum_nil, Fd.cost]; omega
      rw [hcost] at hstep
      have Pa : RwA.P w lo hi ⟨pa, na, ca, xsa⟩ := (show Fd.P w lo hi (Fd.r ⟨pa, na, ca, xsa⟩) from h.fld _ hxm _ (by simp))
      have apa : 0 < na → ∃ b, pa = some ⟨b, 0, none⟩ ∧ b ≠ g := hap _ hxm ⟨pa, na, ca, xsa⟩ (by simp)
      have hgw : g < w.heap.size := cell_lt (hcells 0 (by omega)).1
      have hexi := fun (X : World) (hX : Wn lo hi w X) (i : Nat) (hi' : i < n * 4) => hX.shy ⟨g, i, none⟩ rfl (hcells i hi').1 (hcells i hi').2
      have hKS := hKS g rfl
      obtain ⟨m1, hm1⟩ : ∃ q : Nat, q = m + 1 := ⟨_, rfl⟩
      have e1 : (m : Int) + 1 = (m1 : Int) := by omega
      obtain ⟨m2, hm2⟩ : ∃ q : Nat, q = m1 + 1 := ⟨_, rfl⟩
      have e2 : (m1 : Int) + 1 = (m2 : Int) := by omega
      obtain ⟨m3, hm3⟩ : ∃ q : Nat, q = m2 + 1 := ⟨_, rfl⟩
      have e3 : (m2 : Int) + 1 = (m3 : Int) := by omega
      obtain ⟨m4, hm4⟩ : ∃ q : Nat, q = m3 + na := ⟨_, rfl⟩
      have e4 : (m3 : Int) + (na : Int) = (m4 : Int) := by omega
      have hend : Hid (m4 = k0 + costF (xs.take (k + 1))) := by have := hm.out; rw [Hid]; omega
      have hmb : m4 ≤ 100000000 := by have := hend.out; omega
      have r1 : 0 < m1 ∧ m1 ≤ 100000000 := by omega
      have r2 : 0 < m2 ∧ m2 ≤ 100000000 := by omega
      have r3 : 0 < m3 ∧ m3 ≤ 100000000 := by omega
      have r4 : 0 < m4 ∧ m4 ≤ 100000000 := by omega
      clear hm hstep hle hcost hsl hap
      clear hm1 hm2 hm3 hm4
      have CT := fun X => markText_any m X (by omega) (by omega)
      go_wp2_with (fail)
      refine (CT _).mono ?_
      rintro z wt ⟨rfl, bt⟩
      have hWt := hW.below bt
      have hKSt : KeepSl wt g 4 n xs := hKS.block (bt.block g (by have := hW.size; omega))
      clear CT bt
      replace hKS := hKSt
      clear hKSt
      obtain ⟨⟨u1, c1⟩, f1⟩ := hexi wt hWt (k * 4) (by omega)
      obtain ⟨⟨u2, c2⟩, f2⟩ := hexi (wt.setCell ⟨g, k * 4, none⟩ (.string (mtS m))) (hWt.set ⟨g, k * 4, none⟩ (.string (mtS m)) ⟨h1, h2⟩) (k * 4 + 1) (by omega)
      obtain ⟨⟨u3, c3⟩, f3⟩ := hexi ((wt.setCell ⟨g, k * 4, none⟩ (.string (mtS m))).setCell ⟨g, k * 4 + 1, none⟩ (.int .i64 (m1 : Int))) ((hWt.set ⟨g, k * 4, none⟩ (.string (mtS m)) ⟨h1, h2⟩).set ⟨g, k * 4 + 1, none⟩ (.int .i64 (m1 : Int)) ⟨h1, h2⟩) (k * 4 + 2) (by omega)
      have hWX9 := (((hWt.set ⟨g, k * 4, none⟩ (.string (mtS m)) ⟨h1, h2⟩).set ⟨g, k * 4 + 1, none⟩ (.int .i64 (m1 : Int)) ⟨h1, h2⟩).set ⟨g, k * 4 + 2, none⟩ (.int .i64 (m2 : Int)) ⟨h1, h2⟩)
      have hKSX9 := (KeepSl.set (KeepSl.set (KeepSl.set hKS (fun x hx => item_len x (h.sh x hx)) h.len k 0 (by omega) (fun r => by rw [hx]; simp) (.string (mtS m))) (fun x hx => item_len x (h.sh x hx)) h.len k 1 (by omega) (fun r => by rw [hx]; simp) (.int .i64 (m1 : Int))) (fun x hx => item_len x (h.sh x hx)) h.len k 2 (by omega) (fun r => by rw [hx]; simp) (.int .i64 (m2 : Int)))
      obtain ⟨X9, hX9⟩ : ∃ X, X = (((wt.setCell ⟨g, k * 4, none⟩ (.string (mtS m))).setCell ⟨g, k * 4 + 1, none⟩ (.int .i64 (m1 : Int))).setCell ⟨g, k * 4 + 2, none⟩ (.int .i64 (m2 : Int))) := ⟨_, rfl⟩
      rw [← hX9] at hWX9
      replace hKSX9 : KeepSl X9 g 4 n xs := by rw [hX9]; exact hKSX9
      replace hX9 : Hid ((((wt.setCell ⟨g, k * 4, none⟩ (.string (mtS m))).setCell ⟨g, k * 4 + 1, none⟩ (.int .i64 (m1 : Int))).setCell ⟨g, k * 4 + 2, none⟩ (.int .i64 (m2 : Int))) = X9) := hX9.symm
      replace hKS := hKSX9
      clear hKSX9
      have la : X9.cell? ⟨g, k * 4 + 3, none⟩ = some (.slice pa na ca) := hKS k 3 ⟨pa, na, ca, xsa⟩ hlt (by rw [hx]; rfl)
      go_wp2_with (first | rw [hX9.out])
      clear c1 f1 c2 f2 c3 f3 la hX9
      refine (markByteS_sh lo hi pa na ca (m3 : Int) X9 (by omega) (by omega) (by omega) (Pa.sh.shy hWX9)).mono ?_
      rintro z wma ⟨rfl, hWqa, hGqa⟩
      have hWa := hWX9.trans hWqa
      replace hKS := hKS.block (hGqa g (by have := hWX9.size; omega) apa)
      clear hWqa hGqa
      rw [e4]
      have hKL : ∀ g', some (⟨g, 0, none⟩ : Addr) = some ⟨g', 0, none⟩ → KeepSl wma g' 4 n xs := fun g' e => by simp only [Option.some.injEq, Addr.mk.injEq, and_true] at e; subst e; exact hKS
      go_wp2_with (fail)
      go_roundw
      case rel => exact ⟨k + 1, by omega, by go_num, ⟨m4, rfl, r4.1, r4.2, hend⟩, hWa, hKL⟩
      case measure => simp [intOf]; omega
    · have hkn : k = n := by omega
      subst hkn
      have e := hm.out
      rw [← hlen, List.take_length] at e
      go_wp2_with (fail)
      go_ret
      exact ⟨by rw [e]; rfl, hW⟩

set_option maxHeartbeats 8000000 in
theorem markSentS_sh (lo hi : Nat) (p : Option Addr) (n c k0 : Nat) (xs : List Rc) (w : World) (hk0 : 0 < k0) (hkk : k0 + costF xs ≤ 100000000) (h : RecP w lo hi 4 SentSh p n xs) :
    Calls Tryz.prog 31 #[.slice p n c, .int .i64 (k0 : Int)] w fun e w' => e = .returned (.int .i64 ((k0 + costF xs : Nat) : Int)) ∧ Wn lo hi w w' := by
  have hn := h.hn
  have hlen := h.len
  go_enter Tryz.func31, Tryz.ntmps31
  go_wp2_with (fail)
  go_loopw [1, 5] (fun a i wr => ∃ k : Nat, k ≤ n ∧ i = .int .i64 k ∧ (∃ m : Nat, a = .int .i64 m ∧ 0 < m ∧ m ≤ 100000000 ∧ Hid (m = k0 + costF (xs.take k))) ∧ Wn lo hi w wr ∧ ∀ g, p = some ⟨g, 0, none⟩ → KeepSl wr g 4 n xs) (fun _ i _ => n - (intOf i).toNat)
  case atStart => exact ⟨0, Nat.zero_le _, rfl, ⟨k0, rfl, hk0, by omega, by simp [Hid, costF]⟩, Wn.refl _ _ _, fun g hg i jj r hi hr => by
    obtain ⟨g', e, _, _, _, hsl, _⟩ := h.lie (by omega)
    rw [hg] at e
    simp only [Option.some.injEq, Addr.mk.injEq, and_true] at e
    subst e
    exact hsl i jj _ hi (by rw [Rc.vals, List.getElem?_map, hr]; rfl)⟩
  case round =>
    obtain ⟨k, hk, rfl, ⟨m, rfl, hm0, hm1, hm⟩, hW, hKS⟩ := hrel
    by_cases hlt : k < n
    · skip
      obtain ⟨x, hx⟩ : ∃ x, xs.getD k [] = x := ⟨_, rfl⟩
      have hxm : x ∈ xs := hx ▸ getD_memF (by omega)
      have hstep := costF_step xs k (by omega)
      have hle := costF_le xs (k + 1)
      rw [hx] at hstep
      obtain ⟨g, rfl, h1, h2, hcells, hsl, hap⟩ := h.lie (by omega)
      have hS := h.sh x hxm
      obtain ⟨s, t, ⟨pa, na, ca, xsa⟩, ⟨pb, nb, cb, xsb⟩, rfl⟩ := hS
      have hcost : Rc.cost [Fd.s s, Fd.i t, Fd.r ⟨pa, na, ca, xsa⟩, Fd.r ⟨pb, nb, cb, xsb⟩] = 2 + na + nb := by simp only [Rc.cost, List.map_cons, List.map_nil, List.sum_cons, List.sum_nil, Fd.cost]; omega
      rw [hcost] at hstep
      have Pa : RwA.P w lo hi ⟨pa, na, ca, xsa⟩ := (show Fd.P w lo hi (Fd.r ⟨pa, na, ca, xsa⟩) from h.fld _ hxm _ (by simp))
      have apa : 0 < na → ∃ b, pa = some ⟨b, 0, none⟩ ∧ b ≠ g := hap _ hxm ⟨pa, na, ca, xsa⟩ (by simp)
      have Pb : RwA.P w lo hi ⟨pb, nb, cb, xsb⟩ := (show Fd.P w lo hi (Fd.r ⟨pb, nb, cb, xsb⟩) from h.fld _ hxm _ (by simp))
      have apb : 0 < nb → ∃ b, pb = some ⟨b, 0, none⟩ ∧ b ≠ g := hap _ hxm ⟨pb, nb, cb, xsb⟩ (by simp)
      have hgw : g < w.heap.size := cell_lt (hcells 0 (by omega)).1
      have hexi := fun (X : World) (hX : Wn lo hi w X) (i : Nat) (hi' : i < n * 4) => hX.shy ⟨g, i, none⟩ rfl (hcells i hi').1 (hcells i hi').2
      have hKS := hKS g rfl
      obtain ⟨m1, hm1⟩ : ∃ q : Nat, q = m + 1 := ⟨_, rfl⟩
      have e1 : (m : Int) + 1 = (m1 : Int) := by omega
      obtain ⟨m2, hm2⟩ : ∃ q : Nat, q = m1 + 1 := ⟨_, rfl⟩
      have e2 : (m1 : Int) + 1 = (m2 : Int) := by omega
      obtain ⟨m3, hm3⟩ : ∃ q : Nat, q = m2 + na := ⟨_, rfl⟩
      have e3 : (m2 : Int) + (na : Int) = (m3 : Int) := by omega
      obtain ⟨m4, hm4⟩ : ∃ q : Nat, q = m3 + nb := ⟨_, rfl⟩
      have e4 : (m3 : Int) + (nb : Int) = (m4 : Int) := by omega
      have hend : Hid (m4 = k0 + costF (xs.take (k + 1))) := by have := hm.out; rw [Hid]; omega
      have hmb : m4 ≤ 100000000 := by have := hend.out; omega
      have r1 : 0 < m1 ∧ m1 ≤ 100000000 := by omega
      have r2 : 0 < m2 ∧ m2 ≤ 100000000 := by omega
      have r3 : 0 < m3 ∧ m3 ≤ 100000000 := by omega
      have r4 : 0 < m4 ∧ m4 ≤ 100000000 := by omega
      clear hm hstep hle hcost hsl hap
      clear hm1 hm2 hm3 hm4
      have CT := fun X => markText_any m X (by omega) (by omega)
      go_wp2_with (fail)
      refine (CT _).mono ?_
      rintro z wt ⟨rfl, bt⟩
      have hWt := hW.below bt
      have hKSt : KeepSl wt g 4 n xs := hKS.block (bt.block g (by have := hW.size; omega))
      clear CT bt
      replace hKS := hKSt
      clear hKSt
      obtain ⟨⟨u1, c1⟩, f1⟩ := hexi wt hWt (k * 4) (by omega)
      obtain ⟨⟨u2, c2⟩, f2⟩ := hexi (wt.setCell ⟨g, k * 4, none⟩ (.string (mtS m))) (hWt.set ⟨g, k * 4, none⟩ (.string (mtS m)) ⟨h1, h2⟩) (k * 4 + 1) (by omega)
      have hWX9 := ((hWt.set ⟨g, k * 4, none⟩ (.string (mtS m)) ⟨h1, h2⟩).set ⟨g, k * 4 + 1, none⟩ (.int .i64 (m1 : Int)) ⟨h1, h2⟩)
      have hKSX9 := (KeepSl.set (KeepSl.set hKS (fun x hx => sent_len x (h.sh x hx)) h.len k 0 (by omega) (fun r => by rw [hx]; simp) (.string (mtS m))) (fun x hx => sent_len x (h.sh x hx)) h.len k 1 (by omega) (fun r => by rw [hx]; simp) (.int .i64 (m1 : Int)))
      obtain ⟨X9, hX9⟩ : ∃ X, X = ((wt.setCell ⟨g, k * 4, none⟩ (.string (mtS m))).setCell ⟨g, k * 4 + 1, none⟩ (.int .i64 (m1 : Int))) := ⟨_, rfl⟩
      rw [← hX9] at hWX9
      replace hKSX9 : KeepSl X9 g 4 n xs := by rw [hX9]; exact hKSX9
      replace hX9 : Hid (((wt.setCell ⟨g, k * 4, none⟩ (.string (mtS m))).setCell ⟨g, k * 4 + 1, none⟩ (.int .i64 (m1 : Int))) = X9) := hX9.symm
      replace hKS := hKSX9
      clear hKSX9
      have la : X9.cell? ⟨g, k * 4 + 2, none⟩ = some (.slice pa na ca) := hKS k 2 ⟨pa, na, ca, xsa⟩ hlt (by rw [hx]; rfl)
      go_wp2_with (first | rw [hX9.out])
      clear c1 f1 c2 f2 la hX9
      refine (markByteS_sh lo hi pa na ca (m2 : Int) X9 (by omega) (by omega) (by omega) (Pa.sh.shy hWX9)).mono ?_
      rintro z wma ⟨rfl, hWqa, hGqa⟩
      have hWa := hWX9.trans hWqa
      replace hKS := hKS.block (hGqa g (by have := hWX9.size; omega) apa)
      clear hWqa hGqa
      rw [e3]
      have lb : wma.cell? ⟨g, k * 4 + 3, none⟩ = some (.slice pb nb cb) := hKS k 3 ⟨pb, nb, cb, xsb⟩ hlt (by rw [hx]; rfl)
      go_wp2_with (fail)
      clear lb
      refine (markByteS_sh lo hi pb nb cb (m3 : Int) wma (by omega) (by omega) (by omega) (Pb.sh.shy hWa)).mono ?_
      rintro z wmb ⟨rfl, hWqb, hGqb⟩
      have hWb := hWa.trans hWqb
      replace hKS := hKS.block (hGqb g (by have := hWa.size; omega) apb)
      clear hWqb hGqb
      rw [e4]
      have hKL : ∀ g', some (⟨g, 0, none⟩ : Addr) = some ⟨g', 0, none⟩ → KeepSl wmb g' 4 n xs := fun g' e => by simp only [Option.some.injEq, Addr.mk.injEq, and_true] at e; subst e; exact hKS
      go_wp2_with (fail)
      go_roundw
      case rel => exact ⟨k + 1, by omega, by go_num, ⟨m4, rfl, r4.1, r4.2, hend⟩, hWb, hKL⟩
      case measure => simp [intOf]; omega
    · have hkn : k = n := by omega
      subst hkn
      have e := hm.out
      rw [← hlen, List.take_length] at e
      go_wp2_with (fail)
      go_ret
      exact ⟨by rw [e]; rfl, hW⟩

set_option maxHeartbeats 8000000 in
theorem markByteSS_sh (lo hi : Nat) (p : Option Addr) (n c k0 : Nat) (xs : List Rc) (w : World) (hk0 : 0 < k0) (hkk : k0 + costF xs ≤ 100000000) (h : RecP w lo hi 1 RowSh p n xs) :
    Calls Tryz.prog 71 #[.slice p n c, .int .i64 (k0 : Int)] w fun e w' => e = .returned (.int .i64 ((k0 + costF xs : Nat) : Int)) ∧ Wn lo hi w w' := by
  have hn := h.hn
  have hlen := h.len
  go_enter Tryz.func71, Tryz.ntmps71
  go_wp2_with (fail)
  go_loopw [1, 5] (fun a i wr => ∃ k : Nat, k ≤ n ∧ i = .int .i64 k ∧ (∃ m : Nat, a = .int .i64 m ∧ 0 < m ∧ m ≤ 100000000 ∧ Hid (m = k0 + costF (xs.take k))) ∧ Wn lo hi w wr ∧ ∀ g, p = some ⟨g, 0, none⟩ → KeepSl wr g 1 n xs) (fun _ i _ => n - (intOf i).toNat)
  case atStart => exact ⟨0, Nat.zero_le _, rfl, ⟨k0, rfl, hk0, by omega, by simp [Hid, costF]⟩, Wn.refl _ _ _, fun g hg i jj r hi hr => by
    obtain ⟨g', e, _, _, _, hsl, _⟩ := h.lie (by omega)
    rw [hg] at e
    simp only [Option.some.injEq, Addr.mk.injEq, and_true] at e
    subst e
    exact hsl i jj _ hi (by rw [Rc.vals, List.getElem?_map, hr]; rfl)⟩
  case round =>
    obtain ⟨k, hk, rfl, ⟨m, rfl, hm0, hm1, hm⟩, hW, hKS⟩ := hrel
    by_cases hlt : k < n
    · skip
      obtain ⟨x, hx⟩ : ∃ x, xs.getD k [] = x := ⟨_, rfl⟩
      have hxm : x ∈ xs := hx ▸ getD_memF (by omega)
      have hstep := costF_step xs k (by omega)
      have hle := costF_le xs (k + 1)
      rw [hx] at hstep
      obtain ⟨g, rfl, h1, h2, hcells, hsl, hap⟩ := h.lie (by omega)
      have hS := h.sh x hxm
      obtain ⟨⟨pa, na, ca, xsa⟩, rfl⟩ := hS
      have hcost : Rc.cost [Fd.r ⟨pa, na, ca, xsa⟩] = 0 + na := by simp only [Rc.cost, List.map_cons, List.map_nil, List.sum_cons, List.sum_nil, Fd.cost]; omega
      rw [hcost] at hstep
      have Pa : RwA.P w lo hi ⟨pa, na, ca, xsa⟩ := (show Fd.P w lo hi (Fd.r ⟨pa, na, ca, xsa⟩) from h.fld _ hxm _ (by simp))
      have apa : 0 < na → ∃ b, pa = some ⟨b, 0, none⟩ ∧ b ≠ g := hap _ hxm ⟨pa, na, ca, xsa⟩ (by simp)
      have hgw : g < w.heap.size := cell_lt (hcells 0 (by omega)).1
      have hexi := fun (X : World) (hX : Wn lo hi w X) (i : Nat) (hi' : i < n * 1) => hX.shy ⟨g, i, none⟩ rfl (hcells i hi').1 (hcells i hi').2
      have hKS := hKS g rfl
      obtain ⟨m1, hm1⟩ : ∃ q : Nat, q = m + na := ⟨_, rfl⟩
      have e1 : (m : Int) + (na : Int) = (m1 : Int) := by omega
      have hend : Hid (m1 = k0 + costF (xs.take (k + 1))) := by have := hm.out; rw [Hid]; omega
      have hmb : m1 ≤ 100000000 := by have := hend.out; omega
      have r1 : 0 < m1 ∧ m1 ≤ 100000000 := by omega
      clear hm hstep hle hcost hsl hap
      clear hm1
      have la : wr.cell? ⟨g, k, none⟩ = some (.slice pa na ca) := by have q := hKS k 0 ⟨pa, na, ca, xsa⟩ hlt (by rw [hx]; rfl); rw [Nat.mul_one] at q; exact q
      go_wp2_with (fail)
      clear la
      refine (markByteS_sh lo hi pa na ca (m : Int) wr (by omega) (by omega) (by omega) (Pa.sh.shy hW)).mono ?_
      rintro z wma ⟨rfl, hWqa, hGqa⟩
      have hWa := hW.trans hWqa
      replace hKS := hKS.block (hGqa g (by have := hW.size; omega) apa)
      clear hWqa hGqa
      rw [e1]
      have hKL : ∀ g', some (⟨g, 0, none⟩ : Addr) = some ⟨g', 0, none⟩ → KeepSl wma g' 1 n xs := fun g' e => by simp only [Option.some.injEq, Addr.mk.injEq, and_true] at e; subst e; exact hKS
      go_wp2_with (fail)
      go_roundw
      case rel => exact ⟨k + 1, by omega, by go_num, ⟨m1, rfl, r1.1, r1.2, hend⟩, hWa, hKL⟩
      case measure => simp [intOf]; omega
    · have hkn : k = n := by omega
      subst hkn
      have e := hm.out
      rw [← hlen, List.take_length] at e
      go_wp2_with (fail)
      go_ret
      exact ⟨by rw [e]; rfl, hW⟩

set_option maxHeartbeats 8000000 in
theorem markWireS_sh (lo hi : Nat) (p : Option Addr) (n c k0 : Nat) (xs : List Rc) (w : World) (hk0 : 0 < k0) (hkk : k0 + costF xs ≤ 100000000) (h : RecP w lo hi 6 WireSh p n xs) :
    Calls Tryz.prog 30 #[.slice p n c, .int .i64 (k0 : Int)] w fun e w' => e = .returned (.int .i64 ((k0 + costF xs : Nat) : Int)) ∧ Wn lo hi w w' := by
  have hn := h.hn
  have hlen := h.len
  go_enter Tryz.func30, Tryz.ntmps30
  go_wp2_with (fail)
  go_loopw [1, 5] (fun a i wr => ∃ k : Nat, k ≤ n ∧ i = .int .i64 k ∧ (∃ m : Nat, a = .int .i64 m ∧ 0 < m ∧ m ≤ 100000000 ∧ Hid (m = k0 + costF (xs.take k))) ∧ Wn lo hi w wr ∧ ∀ g, p = some ⟨g, 0, none⟩ → KeepSl wr g 6 n xs) (fun _ i _ => n - (intOf i).toNat)
  case atStart => exact ⟨0, Nat.zero_le _, rfl, ⟨k0, rfl, hk0, by omega, by simp [Hid, costF]⟩, Wn.refl _ _ _, fun g hg i jj r hi hr => by
    obtain ⟨g', e, _, _, _, hsl, _⟩ := h.lie (by omega)
    rw [hg] at e
    simp only [Option.some.injEq, Addr.mk.injEq, and_true] at e
    subst e
    exact hsl i jj _ hi (by rw [Rc.vals, List.getElem?_map, hr]; rfl)⟩
  case round =>
    obtain ⟨k, hk, rfl, ⟨m, rfl, hm0, hm1, hm⟩, hW, hKS⟩ := hrel
    by_cases hlt : k < n
    · skip
      obtain ⟨x, hx⟩ : ∃ x, xs.getD k [] = x := ⟨_, rfl⟩
      have hxm : x ∈ xs := hx ▸ getD_memF (by omega)
      have hstep := costF_step xs k (by omega)
      have hle := costF_le xs (k + 1)
      rw [hx] at hstep
      obtain ⟨g, rfl, h1, h2, hcells, hsl, hap⟩ := h.lie (by omega)
      have hS := h.sh x hxm
      obtain ⟨tp, s, t, d, ⟨pa, na, ca, xsa⟩, ⟨pb, nb, cb, xsb⟩, rfl⟩ := hS
      have hcost : Rc.cost [Fd.b tp, Fd.s s, Fd.i t, Fd.i d, Fd.r ⟨pa, na, ca, xsa⟩, Fd.r ⟨pb, nb, cb, xsb⟩] = 4 + na + nb := by simp only [Rc.cost, List.map_cons, List.map_nil, List.sum_cons, List.sum_nil, Fd.cost]; omega
      rw [hcost] at hstep
      have Pa : RwA.P w lo hi ⟨pa, na, ca, xsa⟩ := (show Fd.P w lo hi (Fd.r ⟨pa, na, ca, xsa⟩) from h.fld _ hxm _ (by simp))
      have apa : 0 < na → ∃ b, pa = some ⟨b, 0, none⟩ ∧ b ≠ g := hap _ hxm ⟨pa, na, ca, xsa⟩ (by simp)
      have Pb : RwA.P w lo hi ⟨pb, nb, cb, xsb⟩ := (show Fd.P w lo hi (Fd.r ⟨pb, nb, cb, xsb⟩) from h.fld _ hxm _ (by simp))
      have apb : 0 < nb → ∃ b, pb = some ⟨b, 0, none⟩ ∧ b ≠ g := hap _ hxm ⟨pb, nb, cb, xsb⟩ (by simp)
      have hgw : g < w.heap.size := cell_lt (hcells 0 (by omega)).1
      have hexi := fun (X : World) (hX : Wn lo hi w X) (i : Nat) (hi' : i < n * 6) => hX.shy ⟨g, i, none⟩ rfl (hcells i hi').1 (hcells i hi').2
      have hKS := hKS g rfl
      obtain ⟨m1, hm1⟩ : ∃ q : Nat, q = m + 1 := ⟨_, rfl⟩
      have e1 : (m : Int) + 1 = (m1 : Int) := by omega
      obtain ⟨m2, hm2⟩ : ∃ q : Nat, q = m1 + 1 := ⟨_, rfl⟩
      have e2 : (m1 : Int) + 1 = (m2 : Int) := by omega
      obtain ⟨m3, hm3⟩ : ∃ q : Nat, q = m2 + 1 := ⟨_, rfl⟩
      have e3 : (m2 : Int) + 1 = (m3 : Int) := by omega
      obtain ⟨m4, hm4⟩ : ∃ q : Nat, q = m3 + 1 := ⟨_, rfl⟩
      have e4 : (m3 : Int) + 1 = (m4 : Int) := by omega
      obtain ⟨m5, hm5⟩ : ∃ q : Nat, q = m4 + na := ⟨_, rfl⟩
      have e5 : (m4 : Int) + (na : Int) = (m5 : Int) := by omega
      obtain ⟨m6, hm6⟩ : ∃ q : Nat, q = m5 + nb := ⟨_, rfl⟩
      have e6 : (m5 : Int) + (nb : Int) = (m6 : Int) := by omega
      have hend : Hid (m6 = k0 + costF (xs.take (k + 1))) := by have := hm.out; rw [Hid]; omega
      have hmb : m6 ≤ 100000000 := by have := hend.out; omega
      have r1 : 0 < m1 ∧ m1 ≤ 100000000 := by omega
      have r2 : 0 < m2 ∧ m2 ≤ 100000000 := by omega
      have r3 : 0 < m3 ∧ m3 ≤ 100000000 := by omega
      have r4 : 0 < m4 ∧ m4 ≤ 100000000 := by omega
      have r5 : 0 < m5 ∧ m5 ≤ 100000000 := by omega
      have r6 : 0 < m6 ∧ m6 ≤ 100000000 := by omega
      clear hm hstep hle hcost hsl hap
      clear hm1 hm2 hm3 hm4 hm5 hm6
      obtain ⟨⟨u1, c1⟩, f1⟩ := hexi wr hW (k * 6) (by omega)
      have hWX1 := (hW.set ⟨g, k * 6, none⟩ (.bool ((m : Int) % 3 == 0)) ⟨h1, h2⟩)
      have hKSX1 := (KeepSl.set hKS (fun x hx => wire_len x (h.sh x hx)) h.len k 0 (by omega) (fun r => by rw [hx]; simp) (.bool ((m : Int) % 3 == 0)))
      obtain ⟨X1, hX1⟩ : ∃ X, X = (wr.setCell ⟨g, k * 6, none⟩ (.bool ((m : Int) % 3 == 0))) := ⟨_, rfl⟩
      rw [← hX1] at hWX1
      replace hKSX1 : KeepSl X1 g 6 n xs := by rw [hX1]; exact hKSX1
      replace hX1 : Hid ((wr.setCell ⟨g, k * 6, none⟩ (.bool ((m : Int) % 3 == 0))) = X1) := hX1.symm
      have CT := fun X => markText_any m1 X (by omega) (by omega)
      go_wp2_with (first | rw [hX1.out])
      clear c1 f1 hX1
      refine (CT _).mono ?_
      rintro z wt ⟨rfl, bt⟩
      have hWt := hWX1.below bt
      have hKSt : KeepSl wt g 6 n xs := hKSX1.block (bt.block g (by have := hWX1.size; omega))
      clear CT bt
      clear hKSX1
      replace hKS := hKSt
      clear hKSt
      obtain ⟨⟨u2, c2⟩, f2⟩ := hexi wt hWt (k * 6 + 1) (by omega)
      obtain ⟨⟨u3, c3⟩, f3⟩ := hexi (wt.setCell ⟨g, k * 6 + 1, none⟩ (.string (mtS m1))) (hWt.set ⟨g, k * 6 + 1, none⟩ (.string (mtS m1)) ⟨h1, h2⟩) (k * 6 + 2) (by omega)
      obtain ⟨⟨u4, c4⟩, f4⟩ := hexi ((wt.setCell ⟨g, k * 6 + 1, none⟩ (.string (mtS m1))).setCell ⟨g, k * 6 + 2, none⟩ (.int .i64 (m2 : Int))) ((hWt.set ⟨g, k * 6 + 1, none⟩ (.string (mtS m1)) ⟨h1, h2⟩).set ⟨g, k * 6 + 2, none⟩ (.int .i64 (m2 : Int)) ⟨h1, h2⟩) (k * 6 + 3) (by omega)
      have hWX9 := (((hWt.set ⟨g, k * 6 + 1, none⟩ (.string (mtS m1)) ⟨h1, h2⟩).set ⟨g, k * 6 + 2, none⟩ (.int .i64 (m2 : Int)) ⟨h1, h2⟩).set ⟨g, k * 6 + 3, none⟩ (.int .i64 (m3 : Int)) ⟨h1, h2⟩)
      have hKSX9 := (KeepSl.set (KeepSl.set (KeepSl.set hKS (fun x hx => wire_len x (h.sh x hx)) h.len k 1 (by omega) (fun r => by rw [hx]; simp) (.string (mtS m1))) (fun x hx => wire_len x (h.sh x hx)) h.len k 2 (by omega) (fun r => by rw [hx]; simp) (.int .i64 (m2 : Int))) (fun x hx => wire_len x (h.sh x hx)) h.len k 3 (by omega) (fun r => by rw [hx]; simp) (.int .i64 (m3 : Int)))
      obtain ⟨X9, hX9⟩ : ∃ X, X = (((wt.setCell ⟨g, k * 6 + 1, none⟩ (.string (mtS m1))).setCell ⟨g, k * 6 + 2, none⟩ (.int .i64 (m2 : Int))).setCell ⟨g, k * 6 + 3, none⟩ (.int .i64 (m3 : Int))) := ⟨_, rfl⟩
      rw [← hX9] at hWX9
      replace hKSX9 : KeepSl X9 g 6 n xs := by rw [hX9]; exact hKSX9
      replace hX9 : Hid ((((wt.setCell ⟨g, k * 6 + 1, none⟩ (.string (mtS m1))).setCell ⟨g, k * 6 + 2, none⟩ (.int .i64 (m2 : Int))).setCell ⟨g, k * 6 + 3, none⟩ (.int .i64 (m3 : Int))) = X9) := hX9.symm
      replace hKS := hKSX9
      clear hKSX9
      have la : X9.cell? ⟨g, k * 6 + 4, none⟩ = some (.slice pa na ca) := hKS k 4 ⟨pa, na, ca, xsa⟩ hlt (by rw [hx]; rfl)
      go_wp2_with (first | rw [hX9.out])
      clear c2 f2 c3 f3 c4 f4 la hX9
      refine (markByteS_sh lo hi pa na ca (m4 : Int) X9 (by omega) (by omega) (by omega) (Pa.sh.shy hWX9)).mono ?_
      rintro z wma ⟨rfl, hWqa, hGqa⟩
      have hWa := hWX9.trans hWqa
      replace hKS := hKS.block (hGqa g (by have := hWX9.size; omega) apa)
      clear hWqa hGqa
      rw [e5]
      have lb : wma.cell? ⟨g, k * 6 + 5, none⟩ = some (.slice pb nb cb) := hKS k 5 ⟨pb, nb, cb, xsb⟩ hlt (by rw [hx]; rfl)
      go_wp2_with (fail)
      clear lb
      refine (markByteS_sh lo hi pb nb cb (m5 : Int) wma (by omega) (by omega) (by omega) (Pb.sh.shy hWa)).mono ?_
      rintro z wmb ⟨rfl, hWqb, hGqb⟩
      have hWb := hWa.trans hWqb
      replace hKS := hKS.block (hGqb g (by have := hWa.size; omega) apb)
      clear hWqb hGqb
      rw [e6]
      have hKL : ∀ g', some (⟨g, 0, none⟩ : Addr) = some ⟨g', 0, none⟩ → KeepSl wmb g' 6 n xs := fun g' e => by simp only [Option.some.injEq, Addr.mk.injEq, and_true] at e; subst e; exact hKS
      go_wp2_with (fail)
      go_roundw
      case rel => exact ⟨k + 1, by omega, by go_num, ⟨m6, rfl, r6.1, r6.2, hend⟩, hWb, hKL⟩
      case measure => simp [intOf]; omega
    · have hkn : k = n := by omega
      subst hkn
      have e := hm.out
      rw [← hlen, List.take_length] at e
      go_wp2_with (fail)
      go_ret
      exact ⟨by rw [e]; rfl, hW⟩

end Go.Proofs.YthfnechcddmjkaaGreatDoor

namespace Go.Proofs.YthfnechcddmjkaaGreatDoor
open Go.RowKit
set_option maxRecDepth 100000

set_option maxHeartbeats 4000000 in
theorem szPostF_any (pq : Option Addr) (nq cq : Nat) (t : Int) (pb : Option Addr) (nb cb : Nat) (u : Int) (xq : List Rc) (xb : List Int) (l : Int) (w : World) (okq : RecA w 4 ItemSh pq nq xq) (okb : RwA.Ok w ⟨pb, nb, cb, xb⟩) (hl : 0 ≤ l ∧ l ≤ 1048576) : Calls Tryz.prog 37 #[.agg #[.slice pq nq cq, .int .i64 t, .slice pb nb cb, .int .i64 u], .int .i64 l] w fun e w' => e = .returned (.int .i64 (if (((nq + totF xq) + nb : Nat) : Int) ≤ l then l - (((nq + totF xq) + nb : Nat) : Int) else -1)) ∧ Below w.heap.size w w' := by
  have kA : ∀ o, Below w.heap.size w (w.alloc o) := fun o => made_below _ _ (Below.refl _ _)
  obtain ⟨T0, hT0⟩ : ∃ T : Nat, T = (nq + totF xq) := ⟨_, rfl⟩
  obtain ⟨T1, hT1⟩ : ∃ T : Nat, T = nb := ⟨_, rfl⟩
  have hTT : (nq + totF xq) + nb = T0 + T1 := by simp only [hT0, hT1]
  rw [hTT]
  clear hTT
  by_cases h0 : (T0 : Int) ≤ l
  · obtain ⟨l1, m0⟩ : ∃ q : Int, q = l - T0 := ⟨_, rfl⟩
    have g0 : 0 ≤ l1 ∧ l1 ≤ 1048576 := by omega
    have t0 : ¬ l1 < 0 := by omega
    have C0 := fun X (k : Below w.heap.size w X) => szItemSF_any pq nq cq xq l X (okq.on k) hl
    rw [if_pos (show (((nq + totF xq) : Nat) : Int) ≤ l by omega), show l - (((nq + totF xq) : Nat) : Int) = l1 by omega] at C0
    by_cases h1 : (T1 : Int) ≤ l1
    · obtain ⟨l2, m1⟩ : ∃ q : Int, q = l1 - T1 := ⟨_, rfl⟩
      have g1 : 0 ≤ l2 ∧ l2 ≤ 1048576 := by omega
      have t1 : ¬ l2 < 0 := by omega
      have C1 := fun X (k : Below w.heap.size w X) => szByteS_any pb nb cb l1 X okb.hn g0
      rw [if_pos (show ((nb : Nat) : Int) ≤ l1 by omega), show l1 - ((nb : Nat) : Int) = l2 by omega] at C1
      rw [if_pos (by omega), show l - ((T0 + T1 : Nat) : Int) = l2 by omega]
      clear h0 m0 hT0 h1 m1 hT1
      go_enter Tryz.func37, Tryz.ntmps37
      go_wp2_with (fail)
      refine (C0 _ (kA _)).mono ?_
      rintro z w0 ⟨rfl, b0⟩
      have D := (Cells.made w _ _).on b0
      have k0 := made_below _ _ b0
      have a0 : w0.cell? ⟨w.heap.size, 2, none⟩ = some (.slice pb nb cb) := (D.2 2).1
      clear b0
      go_wp2_with (fail)
      clear a0
      refine (C1 _ k0).mono ?_
      rintro z w1 ⟨rfl, b1⟩
      replace D := D.on b1
      have k1 := below_on k0 b1
      clear b1 D
      go_wp2_with (fail)
      go_ret
      exact ⟨rfl, k1⟩
    · rw [if_neg (by omega)]
      have C1 := fun X (k : Below w.heap.size w X) => szByteS_any pb nb cb l1 X okb.hn g0
      rw [if_neg (show ¬ ((nb : Nat) : Int) ≤ l1 by omega)] at C1
      clear h0 m0 hT0 h1 hT1
      go_enter Tryz.func37, Tryz.ntmps37
      go_wp2_with (fail)
      refine (C0 _ (kA _)).mono ?_
      rintro z w0 ⟨rfl, b0⟩
      have D := (Cells.made w _ _).on b0
      have k0 := made_below _ _ b0
      have a0 : w0.cell? ⟨w.heap.size, 2, none⟩ = some (.slice pb nb cb) := (D.2 2).1
      clear b0
      go_wp2_with (fail)
      clear a0
      refine (C1 _ k0).mono ?_
      rintro z w1 ⟨rfl, b1⟩
      replace D := D.on b1
      have k1 := below_on k0 b1
      clear b1 D
      go_wp2_with (fail)
      go_ret
      exact ⟨rfl, k1⟩
  · rw [if_neg (by omega)]
    have C0 := fun X (k : Below w.heap.size w X) => szItemSF_any pq nq cq xq l X (okq.on k) hl
    rw [if_neg (show ¬ (((nq + totF xq) : Nat) : Int) ≤ l by omega)] at C0
    clear  h0 hT0
    go_enter Tryz.func37, Tryz.ntmps37
    go_wp2_with (fail)
    refine (C0 _ (kA _)).mono ?_
    rintro z w0 ⟨rfl, b0⟩
    have D := (Cells.made w _ _).on b0
    have k0 := made_below _ _ b0
    clear b0 D
    go_wp2_with (fail)
    go_ret
    exact ⟨rfl, k0⟩

set_option maxHeartbeats 8000000 in
theorem toPostF_own (pq : Option Addr) (nq cq : Nat) (t : Int) (pb : Option Addr) (nb cb : Nat) (u : Int) (xq : List Rc) (xb : List Int) (w : World) (okq : RecA w 4 ItemSh pq nq xq) (okb : RwA.Ok w ⟨pb, nb, cb, xb⟩) (fq : nq ≤ 1048576) (gq : ∀ x ∈ xq, ∀ f ∈ x, f.fit) (fb : nb ≤ 1048576) : Calls Tryz.prog 43 #[.agg #[.slice pq nq cq, .int .i64 t, .slice pb nb cb, .int .i64 u]] w fun z w' => ∃ qq dq yq qb db Kq, z = .returned (.agg #[.slice qq nq dq, .int .i64 t, .slice qb nb db, .int .i64 u]) ∧ RecP w' w.heap.size Kq 4 ItemSh qq nq yq ∧ RwA.P w' Kq w'.heap.size ⟨qb, nb, db, xb⟩ ∧ w.heap.size ≤ Kq ∧ Kq ≤ w'.heap.size ∧ Hid (yq.map Rc.con = xq.map Rc.con) ∧ Below w.heap.size w w' := by
  have kA : ∀ o1 o2 o3, Below w.heap.size w (((w.alloc o1).alloc o2).alloc o3) := fun o1 o2 o3 => made_below _ _ (made_below _ _ (made_below _ _ (Below.refl _ _)))
  have sz : ∀ (W : World) o, (W.alloc o).heap.size = W.heap.size + 1 := fun W o => by simp
  go_enter Tryz.func43, Tryz.ntmps43
  go_wp2_with (fail)
  refine (toItemSF_own pq nq cq xq _ fq (okq.on (kA _ _ _)) gq).mono ?_
  rintro z w1 ⟨qq, dq, yq, rfl, Rq, hq, b1⟩
  have D0 := (Cells.made w _ _).on (made_below _ _ (made_below _ _ b1))
  have D1 := (Cells.made (w.alloc _) #[.slice none 0 0, .int .i64 0, .slice none 0 0, .int .i64 0] _).on (made_below _ _ b1)
  have D2 := (Cells.made ((w.alloc _).alloc _) #[.slice none 0 0, .int .i64 0, .slice none 0 0, .int .i64 0] _).on b1
  have k1 := made_below _ _ (made_below _ _ (made_below _ _ b1))
  have y1 := b1.size
  rw [sz] at D1
  rw [sz, sz] at D2
  rw [sz, sz, sz] at y1
  have Pq := Rq
  rw [sz, sz, sz] at Pq
  clear b1
  obtain ⟨B, hB⟩ : ∃ B, w.heap.size + 1 + 1 = B := ⟨_, rfl⟩
  obtain ⟨B1, hB1⟩ : ∃ B1, w.heap.size + 1 = B1 := ⟨_, rfl⟩
  obtain ⟨B0, hB0⟩ : ∃ B0, w.heap.size = B0 := ⟨_, rfl⟩
  rw [hB] at D2 y1 Pq ⊢
  rw [hB1] at D1 ⊢
  rw [hB0] at D0 k1 ⊢
  have g0 : B0 < B1 := by omega
  have g1 : B1 < B := by omega
  replace hB0 : Hid (w.heap.size = B0) := hB0
  clear hB hB1 kA sz
  have c2_0 : w1.cell? ⟨B, 0, none⟩ = some (.slice none 0 0) := (D2.2 0).1
  have z2_0 := (D2.2 0).2
  have G2_0 : Cells (w1.setCell ⟨B, 0, none⟩ (.slice qq nq dq)) B #[.slice qq nq dq, .int .i64 0, .slice none 0 0, .int .i64 0] := D2.set 0 (by simp) (.slice qq nq dq)
  have k2 := (k1).setCell (p := ⟨B, 0, none⟩) (by show B0 ≤ B; omega) (.slice qq nq dq)
  have E2_2 := G2_0
  clear G2_0
  have n2 : Wn B (B + 1) w1 (w1.setCell ⟨B, 0, none⟩ (.slice qq nq dq)) := ((Wn.refl B (B + 1) w1)).set ⟨B, 0, none⟩ (.slice qq nq dq) ⟨Nat.le_refl _, Nat.lt_succ_self _⟩
  replace D0 := D0.pastW n2 (by omega)
  replace D1 := D1.pastW n2 (by omega)
  obtain ⟨w2, hw2⟩ : ∃ X, X = (w1.setCell ⟨B, 0, none⟩ (.slice qq nq dq)) := ⟨_, rfl⟩
  rw [← hw2] at k2 E2_2 n2 D0 D1
  replace hw2 : Hid ((w1.setCell ⟨B, 0, none⟩ (.slice qq nq dq)) = w2) := hw2.symm
  replace Pq := Pq.past n2 (by omega)
  have y2 := n2.size
  clear n2 D2
  have D2 := E2_2
  clear E2_2
  clear k1
  have a3 : w2.cell? ⟨B0, 1, none⟩ = some (.int .i64 t) := (D0.2 1).1
  have c3 : w2.cell? ⟨B, 1, none⟩ = some (.int .i64 0) := (D2.2 1).1
  have z3 := (D2.2 1).2
  have G3_0 : Cells (w2.setCell ⟨B, 1, none⟩ (.int .i64 t)) B #[.slice qq nq dq, .int .i64 t, .slice none 0 0, .int .i64 0] := D2.set 1 (by simp) (.int .i64 t)
  have k3 := (k2).setCell (p := ⟨B, 1, none⟩) (by show B0 ≤ B; omega) (.int .i64 t)
  have E2_3 := G3_0
  clear G3_0
  have n3 : Wn B (B + 1) w2 (w2.setCell ⟨B, 1, none⟩ (.int .i64 t)) := ((Wn.refl B (B + 1) w2)).set ⟨B, 1, none⟩ (.int .i64 t) ⟨Nat.le_refl _, Nat.lt_succ_self _⟩
  replace D0 := D0.pastW n3 (by omega)
  replace D1 := D1.pastW n3 (by omega)
  obtain ⟨w3, hw3⟩ : ∃ X, X = (w2.setCell ⟨B, 1, none⟩ (.int .i64 t)) := ⟨_, rfl⟩
  rw [← hw3] at k3 E2_3 n3 D0 D1
  replace hw3 : Hid ((w2.setCell ⟨B, 1, none⟩ (.int .i64 t)) = w3) := hw3.symm
  replace Pq := Pq.past n3 (by omega)
  have y3 := n3.size
  clear n3 D2
  have D2 := E2_3
  clear E2_3
  clear k2
  have a4 : w3.cell? ⟨B0, 2, none⟩ = some (.slice pb nb cb) := (D0.2 2).1
  go_wp2_with (first | rw [hw2.out] | rw [hw3.out])
  clear c2_0 z2_0 a3 c3 z3 a4 hw2 hw3
  have kw5 : Below w.heap.size w w3 := by have q := k3; rw [← hB0.out] at q; exact q
  refine (toByteS_own pb nb cb xb _ fb okb.len (in_below okb.bytes kw5)).mono ?_
  rintro z w4 ⟨qb, db, rfl, Rb, b5⟩
  have k5 := below_on kw5 b5
  rw [hB0.out] at k5
  replace D0 := D0.on b5
  replace D1 := D1.on b5
  replace D2 := D2.on b5
  have y5 := b5.size
  clear kw5
  replace Pq := Pq.past (Wn.of_below (lo := 0) (hi := 0) b5) (Or.inr (Nat.zero_le _))
  have Pb := RwA.P.of_own Rb okb.hn okb.byte
  clear k3 b5
  have c6_0 : w4.cell? ⟨B, 2, none⟩ = some (.slice none 0 0) := (D2.2 2).1
  have z6_0 := (D2.2 2).2
  have G6_0 : Cells (w4.setCell ⟨B, 2, none⟩ (.slice qb nb db)) B #[.slice qq nq dq, .int .i64 t, .slice qb nb db, .int .i64 0] := D2.set 2 (by simp) (.slice qb nb db)
  have k6 := (k5).setCell (p := ⟨B, 2, none⟩) (by show B0 ≤ B; omega) (.slice qb nb db)
  have E2_6 := G6_0
  clear G6_0
  have n6 : Wn B (B + 1) w4 (w4.setCell ⟨B, 2, none⟩ (.slice qb nb db)) := ((Wn.refl B (B + 1) w4)).set ⟨B, 2, none⟩ (.slice qb nb db) ⟨Nat.le_refl _, Nat.lt_succ_self _⟩
  replace D0 := D0.pastW n6 (by omega)
  replace D1 := D1.pastW n6 (by omega)
  obtain ⟨w5, hw6⟩ : ∃ X, X = (w4.setCell ⟨B, 2, none⟩ (.slice qb nb db)) := ⟨_, rfl⟩
  rw [← hw6] at k6 E2_6 n6 D0 D1
  replace hw6 : Hid ((w4.setCell ⟨B, 2, none⟩ (.slice qb nb db)) = w5) := hw6.symm
  replace Pq := Pq.past n6 (by omega)
  replace Pb := Pb.past n6 (by omega)
  have y6 := n6.size
  clear n6 D2
  have D2 := E2_6
  clear E2_6
  clear k5
  have a7 : w5.cell? ⟨B0, 3, none⟩ = some (.int .i64 u) := (D0.2 3).1
  have c7 : w5.cell? ⟨B, 3, none⟩ = some (.int .i64 0) := (D2.2 3).1
  have z7 := (D2.2 3).2
  have G7_0 : Cells (w5.setCell ⟨B, 3, none⟩ (.int .i64 u)) B #[.slice qq nq dq, .int .i64 t, .slice qb nb db, .int .i64 u] := D2.set 3 (by simp) (.int .i64 u)
  have k7 := (k6).setCell (p := ⟨B, 3, none⟩) (by show B0 ≤ B; omega) (.int .i64 u)
  have E2_7 := G7_0
  clear G7_0
  have n7 : Wn B (B + 1) w5 (w5.setCell ⟨B, 3, none⟩ (.int .i64 u)) := ((Wn.refl B (B + 1) w5)).set ⟨B, 3, none⟩ (.int .i64 u) ⟨Nat.le_refl _, Nat.lt_succ_self _⟩
  replace D0 := D0.pastW n7 (by omega)
  replace D1 := D1.pastW n7 (by omega)
  obtain ⟨w6, hw7⟩ : ∃ X, X = (w5.setCell ⟨B, 3, none⟩ (.int .i64 u)) := ⟨_, rfl⟩
  rw [← hw7] at k7 E2_7 n7 D0 D1
  replace hw7 : Hid ((w5.setCell ⟨B, 3, none⟩ (.int .i64 u)) = w6) := hw7.symm
  replace Pq := Pq.past n7 (by omega)
  replace Pb := Pb.past n7 (by omega)
  have y7 := n7.size
  clear n7 D2
  have D2 := E2_7
  clear E2_7
  clear k6
  have m0 : w6.cell? ⟨B, 0, none⟩ = some (.slice qq nq dq) := (D2.2 0).1
  have q0 : w6.cell? ⟨B1, 0, none⟩ = some (.slice none 0 0) := (D1.2 0).1
  have x0 := (D1.2 0).2
  have H8_0 : Cells (w6.setCell ⟨B1, 0, none⟩ (.slice qq nq dq)) B1 #[.slice qq nq dq, .int .i64 0, .slice none 0 0, .int .i64 0] := D1.set 0 (by simp) (.slice qq nq dq)
  have m1 : w6.cell? ⟨B, 1, none⟩ = some (.int .i64 t) := (D2.2 1).1
  have q1 : (w6.setCell ⟨B1, 0, none⟩ (.slice qq nq dq)).cell? ⟨B1, 1, none⟩ = some (.int .i64 0) := (H8_0.2 1).1
  have x1 := (H8_0.2 1).2
  have H8_1 : Cells ((w6.setCell ⟨B1, 0, none⟩ (.slice qq nq dq)).setCell ⟨B1, 1, none⟩ (.int .i64 t)) B1 #[.slice qq nq dq, .int .i64 t, .slice none 0 0, .int .i64 0] := H8_0.set 1 (by simp) (.int .i64 t)
  have m2 : w6.cell? ⟨B, 2, none⟩ = some (.slice qb nb db) := (D2.2 2).1
  have q2 : ((w6.setCell ⟨B1, 0, none⟩ (.slice qq nq dq)).setCell ⟨B1, 1, none⟩ (.int .i64 t)).cell? ⟨B1, 2, none⟩ = some (.slice none 0 0) := (H8_1.2 2).1
  have x2 := (H8_1.2 2).2
  have H8_2 : Cells (((w6.setCell ⟨B1, 0, none⟩ (.slice qq nq dq)).setCell ⟨B1, 1, none⟩ (.int .i64 t)).setCell ⟨B1, 2, none⟩ (.slice qb nb db)) B1 #[.slice qq nq dq, .int .i64 t, .slice qb nb db, .int .i64 0] := H8_1.set 2 (by simp) (.slice qb nb db)
  have m3 : w6.cell? ⟨B, 3, none⟩ = some (.int .i64 u) := (D2.2 3).1
  have q3 : (((w6.setCell ⟨B1, 0, none⟩ (.slice qq nq dq)).setCell ⟨B1, 1, none⟩ (.int .i64 t)).setCell ⟨B1, 2, none⟩ (.slice qb nb db)).cell? ⟨B1, 3, none⟩ = some (.int .i64 0) := (H8_2.2 3).1
  have x3 := (H8_2.2 3).2
  clear H8_0 H8_1 H8_2
  have G8_0 : Cells (w6.setCell ⟨B1, 0, none⟩ (.slice qq nq dq)) B1 #[.slice qq nq dq, .int .i64 0, .slice none 0 0, .int .i64 0] := D1.set 0 (by simp) (.slice qq nq dq)
  have G8_1 : Cells ((w6.setCell ⟨B1, 0, none⟩ (.slice qq nq dq)).setCell ⟨B1, 1, none⟩ (.int .i64 t)) B1 #[.slice qq nq dq, .int .i64 t, .slice none 0 0, .int .i64 0] := G8_0.set 1 (by simp) (.int .i64 t)
  have G8_2 : Cells (((w6.setCell ⟨B1, 0, none⟩ (.slice qq nq dq)).setCell ⟨B1, 1, none⟩ (.int .i64 t)).setCell ⟨B1, 2, none⟩ (.slice qb nb db)) B1 #[.slice qq nq dq, .int .i64 t, .slice qb nb db, .int .i64 0] := G8_1.set 2 (by simp) (.slice qb nb db)
  have G8_3 : Cells ((((w6.setCell ⟨B1, 0, none⟩ (.slice qq nq dq)).setCell ⟨B1, 1, none⟩ (.int .i64 t)).setCell ⟨B1, 2, none⟩ (.slice qb nb db)).setCell ⟨B1, 3, none⟩ (.int .i64 u)) B1 #[.slice qq nq dq, .int .i64 t, .slice qb nb db, .int .i64 u] := G8_2.set 3 (by simp) (.int .i64 u)
  have k8 := ((((k7).setCell (p := ⟨B1, 0, none⟩) (by show B0 ≤ B1; omega) (.slice qq nq dq)).setCell (p := ⟨B1, 1, none⟩) (by show B0 ≤ B1; omega) (.int .i64 t)).setCell (p := ⟨B1, 2, none⟩) (by show B0 ≤ B1; omega) (.slice qb nb db)).setCell (p := ⟨B1, 3, none⟩) (by show B0 ≤ B1; omega) (.int .i64 u)
  have E2_8 := G8_3
  clear G8_0 G8_1 G8_2 G8_3
  have n8 : Wn B1 (B1 + 1) w6 ((((w6.setCell ⟨B1, 0, none⟩ (.slice qq nq dq)).setCell ⟨B1, 1, none⟩ (.int .i64 t)).setCell ⟨B1, 2, none⟩ (.slice qb nb db)).setCell ⟨B1, 3, none⟩ (.int .i64 u)) := (((((Wn.refl B1 (B1 + 1) w6)).set ⟨B1, 0, none⟩ (.slice qq nq dq) ⟨Nat.le_refl _, Nat.lt_succ_self _⟩).set ⟨B1, 1, none⟩ (.int .i64 t) ⟨Nat.le_refl _, Nat.lt_succ_self _⟩).set ⟨B1, 2, none⟩ (.slice qb nb db) ⟨Nat.le_refl _, Nat.lt_succ_self _⟩).set ⟨B1, 3, none⟩ (.int .i64 u) ⟨Nat.le_refl _, Nat.lt_succ_self _⟩
  obtain ⟨w7, hw8⟩ : ∃ X, X = ((((w6.setCell ⟨B1, 0, none⟩ (.slice qq nq dq)).setCell ⟨B1, 1, none⟩ (.int .i64 t)).setCell ⟨B1, 2, none⟩ (.slice qb nb db)).setCell ⟨B1, 3, none⟩ (.int .i64 u)) := ⟨_, rfl⟩
  rw [← hw8] at k8 E2_8 n8
  replace hw8 : Hid (((((w6.setCell ⟨B1, 0, none⟩ (.slice qq nq dq)).setCell ⟨B1, 1, none⟩ (.int .i64 t)).setCell ⟨B1, 2, none⟩ (.slice qb nb db)).setCell ⟨B1, 3, none⟩ (.int .i64 u)) = w7) := hw8.symm
  replace Pq := Pq.past n8 (by omega)
  replace Pb := Pb.past n8 (by omega)
  have y8 := n8.size
  clear n8 D1
  have D1 := E2_8
  clear E2_8
  clear k7
  have u0 : w7.cell? ⟨B1, 0, none⟩ = some (.slice qq nq dq) := (D1.2 0).1
  have u1 : w7.cell? ⟨B1, 1, none⟩ = some (.int .i64 t) := (D1.2 1).1
  have u2 : w7.cell? ⟨B1, 2, none⟩ = some (.slice qb nb db) := (D1.2 2).1
  have u3 : w7.cell? ⟨B1, 3, none⟩ = some (.int .i64 u) := (D1.2 3).1
  clear D1 D2 D0
  go_wp2_with (first | rw [hw6.out] | rw [hw7.out] | rw [hw8.out])
  clear c6_0 z6_0 a7 c7 z7 m0 q0 x0 m1 q1 x1 m2 q2 x2 m3 q3 x3 hw6 hw7 hw8
  rw [← hB0.out] at k8 g0
  refine bodyPost_ret (v := .agg #[.slice qq nq dq, .int .i64 t, .slice qb nb db, .int .i64 u]) ?_ rfl ⟨qq, dq, yq, qb, db, w1.heap.size, rfl, Pq.wide (by omega) (by omega), Pb.wide (by omega) (by omega), by omega, by omega, hq, k8⟩
  simp only [results, Tryz.f43]
  go_simp

set_option maxHeartbeats 4000000 in
theorem eqPostF_true (pq : Option Addr) (nq cq : Nat) (t : Int) (pb : Option Addr) (nb cb : Nat) (u : Int) (pq' : Option Addr) (nq' cq' : Nat) (pb' : Option Addr) (nb' cb' : Nat) (xq : List Rc) (xb : List Int) (xq' : List Rc) (w : World) (okq : RecA w 4 ItemSh pq nq xq) (okb : RwA.Ok w ⟨pb, nb, cb, xb⟩) (okq' : RecA w 4 ItemSh pq' nq' xq') (okb' : RwA.Ok w ⟨pb', nb', cb', xb⟩) (hq : Hid (xq.map Rc.con = xq'.map Rc.con)) : Calls Tryz.prog 24 #[.agg #[.slice pq nq cq, .int .i64 t, .slice pb nb cb, .int .i64 u], .agg #[.slice pq' nq' cq', .int .i64 t, .slice pb' nb' cb', .int .i64 u]] w fun z w' => z = .returned (.bool true) ∧ Below w.heap.size w w' := by
  have kA : ∀ o1 o2, Below w.heap.size w ((w.alloc o1).alloc o2) := fun o1 o2 => made_below _ _ (made_below _ _ (Below.refl _ _))
  have sz : ∀ (W : World) o, (W.alloc o).heap.size = W.heap.size + 1 := fun W o => by simp
  have n_t : (t != t) = false := by simp
  have n_u : (u != u) = false := by simp
  go_enter Tryz.func24, Tryz.ntmps24
  go_wp2_with (fail)
  refine (eqItemSF_true pq pq' nq nq' cq cq' xq xq' _ (okq.on (kA _ _)) (okq'.on (kA _ _)) hq).mono ?_
  rintro z w1 ⟨rfl, b1⟩
  have D1 := (Cells.made w _ _).on (made_below _ _ b1)
  have D2 := (Cells.made (w.alloc _) _ _).on b1
  have k1 := made_below _ _ (made_below _ _ b1)
  rw [sz] at D2
  clear kA sz b1
  have l1 : w1.cell? ⟨w.heap.size, 1, none⟩ = some (.int .i64 t) := (D1.2 1).1
  have r1 : w1.cell? ⟨w.heap.size + 1, 1, none⟩ = some (.int .i64 t) := (D2.2 1).1
  have l2 : w1.cell? ⟨w.heap.size, 2, none⟩ = some (.slice pb nb cb) := (D1.2 2).1
  have r2 : w1.cell? ⟨w.heap.size + 1, 2, none⟩ = some (.slice pb' nb' cb') := (D2.2 2).1
  go_wp2_with (fail)
  clear l1 r1 l2 r2
  refine (eqBytes_true pb pb' nb nb' cb cb' xb w _ okb okb' k1).mono ?_
  rintro z w2 ⟨rfl, b2⟩
  replace D1 := D1.on b2
  replace D2 := D2.on b2
  have k2 := below_on k1 b2
  clear k1 b2
  have l3 : w2.cell? ⟨w.heap.size, 3, none⟩ = some (.int .i64 u) := (D1.2 3).1
  have r3 : w2.cell? ⟨w.heap.size + 1, 3, none⟩ = some (.int .i64 u) := (D2.2 3).1
  go_wp2_with (fail)
  clear l3 r3
  go_ret
  exact ⟨rfl, k2⟩

set_option maxHeartbeats 8000000 in
theorem markPostF_sh (pq : Option Addr) (nq cq : Nat) (t : Int) (pb : Option Addr) (nb cb : Nat) (u : Int) (xq : List Rc) (xb : List Int) (lo hi k0 : Nat) (Kq : Nat) (w : World) (Pq : RecP w lo Kq 4 ItemSh pq nq xq) (Pb : RwA.P w Kq hi ⟨pb, nb, cb, xb⟩) (s0 : lo ≤ Kq) (s1 : Kq ≤ hi) (hhi : hi ≤ w.heap.size) (hk0 : 0 < k0) (hkk : k0 + (costF xq + nb) ≤ 100000000) : Calls Tryz.prog 28 #[.agg #[.slice pq nq cq, .int .i64 t, .slice pb nb cb, .int .i64 u], .int .i64 (k0 : Int)] w fun e w' => e = .returned (.int .i64 ((k0 + (costF xq + nb) : Nat) : Int)) ∧ Wn lo hi w w' := by
  obtain ⟨k1, hk1⟩ : ∃ q : Nat, q = k0 + costF xq := ⟨_, rfl⟩
  obtain ⟨k2, hk2⟩ : ∃ q : Nat, q = k1 + nb := ⟨_, rfl⟩
  have r1 : 0 < k1 ∧ k1 ≤ 100000000 := by omega
  have b0 : k0 + costF xq ≤ 100000000 := by omega
  have r2 : 0 < k2 ∧ k2 ≤ 100000000 := by omega
  have b1 : k1 + nb ≤ 100000000 := by omega
  have e2 : (k1 : Int) + (nb : Int) = (k2 : Int) := by omega
  have fn1 : nb ≤ 1099511627776 := by omega
  have hsum : k0 + (costF xq + nb) = k2 := by omega
  rw [hsum]
  clear hsum hkk
  replace hk1 : Hid (k1 = k0 + costF xq) := hk1
  replace hk2 : Hid (k2 = k1 + nb) := hk2
  have kA : ∀ o, Below w.heap.size w (w.alloc o) := fun o => made_below _ _ (Below.refl _ _)
  go_enter Tryz.func28, Tryz.ntmps28
  go_wp2_with (fail)
  refine (markItemS_sh lo Kq pq nq cq k0 xq _ (by omega) b0 (Pq.past (Wn.of_below (lo := 0) (hi := 0) (kA _)) (Or.inr (Nat.zero_le _)))).mono ?_
  rintro z w1 ⟨rfl, hW1⟩
  have D := (Cells.made w _ _).pastW hW1 (Or.inr (by omega))
  replace Pb := (Pb.past (Wn.of_below (lo := 0) (hi := 0) (kA _)) (Or.inr (Nat.zero_le _))).past hW1 (by omega)
  have V1 : Wn lo hi w w1 := (Wn.of_below (kA _)).trans (hW1.wide (by omega) (by omega))
  have y1 := V1.size
  rw [show k0 + costF xq = k1 from hk1.out.symm]
  have l2 : w1.cell? ⟨w.heap.size, 2, none⟩ = some (.slice pb nb cb) := (D.2 2).1
  clear hW1
  go_wp2_with (fail)
  clear l2
  refine (markByteS_sh Kq hi pb nb cb (k1 : Int) _ fn1 (by omega) (by omega) (Pb).sh).mono ?_
  rintro z w2 ⟨rfl, hW2, _⟩
  replace D := D.pastW hW2 (Or.inr (by omega))
  have V2 := V1.trans (hW2.wide (lo' := lo) (hi' := hi) (by omega) (by omega))
  clear V1 y1
  have y2 := V2.size
  rw [e2]
  clear hW2
  go_wp2_with (fail)
  go_ret
  exact ⟨rfl, V2⟩

set_option maxHeartbeats 4000000 in
theorem szReaderF_any (ps : Option Addr) (ns cs : Nat) (e : Int) (pv : Option Addr) (nv cv : Nat) (pg : Option Addr) (ng cg : Nat) (xs : List Int) (xv : List Rc) (xg : List Rc) (l : Int) (w : World) (oks : RwA.Ok w ⟨ps, ns, cs, xs⟩) (okv : RecA w 1 RowSh pv nv xv) (okg : RecA w 1 RowSh pg ng xg) (hl : 0 ≤ l ∧ l ≤ 1048576) : Calls Tryz.prog 38 #[.agg #[.slice ps ns cs, .int .i64 e, .slice pv nv cv, .slice pg ng cg], .int .i64 l] w fun e w' => e = .returned (.int .i64 (if ((ns + (nv + totF xv) + (ng + totF xg) : Nat) : Int) ≤ l then l - ((ns + (nv + totF xv) + (ng + totF xg) : Nat) : Int) else -1)) ∧ Below w.heap.size w w' := by
  have kA : ∀ o, Below w.heap.size w (w.alloc o) := fun o => made_below _ _ (Below.refl _ _)
  obtain ⟨T0, hT0⟩ : ∃ T : Nat, T = ns := ⟨_, rfl⟩
  obtain ⟨T1, hT1⟩ : ∃ T : Nat, T = (nv + totF xv) := ⟨_, rfl⟩
  obtain ⟨T2, hT2⟩ : ∃ T : Nat, T = (ng + totF xg) := ⟨_, rfl⟩
  have hTT : ns + (nv + totF xv) + (ng + totF xg) = T0 + T1 + T2 := by simp only [hT0, hT1, hT2]
  rw [hTT]
  clear hTT
  by_cases h0 : (T0 : Int) ≤ l
  · obtain ⟨l1, m0⟩ : ∃ q : Int, q = l - T0 := ⟨_, rfl⟩
    have g0 : 0 ≤ l1 ∧ l1 ≤ 1048576 := by omega
    have t0 : ¬ l1 < 0 := by omega
    have C0 := fun X (k : Below w.heap.size w X) => szByteS_any ps ns cs l X oks.hn hl
    rw [if_pos (show ((ns : Nat) : Int) ≤ l by omega), show l - ((ns : Nat) : Int) = l1 by omega] at C0
    by_cases h1 : (T1 : Int) ≤ l1
    · obtain ⟨l2, m1⟩ : ∃ q : Int, q = l1 - T1 := ⟨_, rfl⟩
      have g1 : 0 ≤ l2 ∧ l2 ≤ 1048576 := by omega
      have t1 : ¬ l2 < 0 := by omega
      have C1 := fun X (k : Below w.heap.size w X) => szByteSSF_any pv nv cv xv l1 X (okv.on k) g0
      rw [if_pos (show (((nv + totF xv) : Nat) : Int) ≤ l1 by omega), show l1 - (((nv + totF xv) : Nat) : Int) = l2 by omega] at C1
      by_cases h2 : (T2 : Int) ≤ l2
      · obtain ⟨l3, m2⟩ : ∃ q : Int, q = l2 - T2 := ⟨_, rfl⟩
        have g2 : 0 ≤ l3 ∧ l3 ≤ 1048576 := by omega
        have t2 : ¬ l3 < 0 := by omega
        have C2 := fun X (k : Below w.heap.size w X) => szByteSSF_any pg ng cg xg l2 X (okg.on k) g1
        rw [if_pos (show (((ng + totF xg) : Nat) : Int) ≤ l2 by omega), show l2 - (((ng + totF xg) : Nat) : Int) = l3 by omega] at C2
        rw [if_pos (by omega), show l - ((T0 + T1 + T2 : Nat) : Int) = l3 by omega]
        clear h0 m0 hT0 h1 m1 hT1 h2 m2 hT2
        go_enter Tryz.func38, Tryz.ntmps38
        go_wp2_with (fail)
        refine (C0 _ (kA _)).mono ?_
        rintro z w0 ⟨rfl, b0⟩
        have D := (Cells.made w _ _).on b0
        have k0 := made_below _ _ b0
        have a0 : w0.cell? ⟨w.heap.size, 2, none⟩ = some (.slice pv nv cv) := (D.2 2).1
        clear b0
        go_wp2_with (fail)
        clear a0
        refine (C1 _ k0).mono ?_
        rintro z w1 ⟨rfl, b1⟩
        replace D := D.on b1
        have k1 := below_on k0 b1
        have a0 : w1.cell? ⟨w.heap.size, 3, none⟩ = some (.slice pg ng cg) := (D.2 3).1
        clear b1
        go_wp2_with (fail)
        clear a0
        refine (C2 _ k1).mono ?_
        rintro z w2 ⟨rfl, b2⟩
        replace D := D.on b2
        have k2 := below_on k1 b2
        clear b2 D
        go_wp2_with (fail)
        go_ret
        exact ⟨rfl, k2⟩
      · rw [if_neg (by omega)]
        have C2 := fun X (k : Below w.heap.size w X) => szByteSSF_any pg ng cg xg l2 X (okg.on k) g1
        rw [if_neg (show ¬ (((ng + totF xg) : Nat) : Int) ≤ l2 by omega)] at C2
        clear h0 m0 hT0 h1 m1 hT1 h2 hT2
        go_enter Tryz.func38, Tryz.ntmps38
        go_wp2_with (fail)
        refine (C0 _ (kA _)).mono ?_
        rintro z w0 ⟨rfl, b0⟩
        have D := (Cells.made w _ _).on b0
        have k0 := made_below _ _ b0
        have a0 : w0.cell? ⟨w.heap.size, 2, none⟩ = some (.slice pv nv cv) := (D.2 2).1
        clear b0
        go_wp2_with (fail)
        clear a0
        refine (C1 _ k0).mono ?_
        rintro z w1 ⟨rfl, b1⟩
        replace D := D.on b1
        have k1 := below_on k0 b1
        have a0 : w1.cell? ⟨w.heap.size, 3, none⟩ = some (.slice pg ng cg) := (D.2 3).1
        clear b1
        go_wp2_with (fail)
        clear a0
        refine (C2 _ k1).mono ?_
        rintro z w2 ⟨rfl, b2⟩
        replace D := D.on b2
        have k2 := below_on k1 b2
        clear b2 D
        go_wp2_with (fail)
        go_ret
        exact ⟨rfl, k2⟩
    · rw [if_neg (by omega)]
      have C1 := fun X (k : Below w.heap.size w X) => szByteSSF_any pv nv cv xv l1 X (okv.on k) g0
      rw [if_neg (show ¬ (((nv + totF xv) : Nat) : Int) ≤ l1 by omega)] at C1
      clear h0 m0 hT0 h1 hT1
      go_enter Tryz.func38, Tryz.ntmps38
      go_wp2_with (fail)
      refine (C0 _ (kA _)).mono ?_
      rintro z w0 ⟨rfl, b0⟩
      have D := (Cells.made w _ _).on b0
      have k0 := made_below _ _ b0
      have a0 : w0.cell? ⟨w.heap.size, 2, none⟩ = some (.slice pv nv cv) := (D.2 2).1
      clear b0
      go_wp2_with (fail)
      clear a0
      refine (C1 _ k0).mono ?_
      rintro z w1 ⟨rfl, b1⟩
      replace D := D.on b1
      have k1 := below_on k0 b1
      clear b1 D
      go_wp2_with (fail)
      go_ret
      exact ⟨rfl, k1⟩
  · rw [if_neg (by omega)]
    have C0 := fun X (k : Below w.heap.size w X) => szByteS_any ps ns cs l X oks.hn hl
    rw [if_neg (show ¬ ((ns : Nat) : Int) ≤ l by omega)] at C0
    clear  h0 hT0
    go_enter Tryz.func38, Tryz.ntmps38
    go_wp2_with (fail)
    refine (C0 _ (kA _)).mono ?_
    rintro z w0 ⟨rfl, b0⟩
    have D := (Cells.made w _ _).on b0
    have k0 := made_below _ _ b0
    clear b0 D
    go_wp2_with (fail)
    go_ret
    exact ⟨rfl, k0⟩

set_option maxHeartbeats 8000000 in
theorem toReaderF_own (ps : Option Addr) (ns cs : Nat) (e : Int) (pv : Option Addr) (nv cv : Nat) (pg : Option Addr) (ng cg : Nat) (xs : List Int) (xv : List Rc) (xg : List Rc) (w : World) (oks : RwA.Ok w ⟨ps, ns, cs, xs⟩) (okv : RecA w 1 RowSh pv nv xv) (okg : RecA w 1 RowSh pg ng xg) (fs : ns ≤ 1048576) (fv : nv ≤ 1048576) (gv : ∀ x ∈ xv, ∀ f ∈ x, f.fit) (fg : ng ≤ 1048576) (gg : ∀ x ∈ xg, ∀ f ∈ x, f.fit) : Calls Tryz.prog 44 #[.agg #[.slice ps ns cs, .int .i64 e, .slice pv nv cv, .slice pg ng cg]] w fun z w' => ∃ qs ds qv dv yv qg dg yg Ks Kv, z = .returned (.agg #[.slice qs ns ds, .int .i64 e, .slice qv nv dv, .slice qg ng dg]) ∧ RwA.P w' w.heap.size Ks ⟨qs, ns, ds, xs⟩ ∧ RecP w' Ks Kv 1 RowSh qv nv yv ∧ RecP w' Kv w'.heap.size 1 RowSh qg ng yg ∧ w.heap.size ≤ Ks ∧ Ks ≤ Kv ∧ Kv ≤ w'.heap.size ∧ Hid (yv.map Rc.con = xv.map Rc.con) ∧ Hid (yg.map Rc.con = xg.map Rc.con) ∧ Below w.heap.size w w' := by
  have kA : ∀ o1 o2 o3, Below w.heap.size w (((w.alloc o1).alloc o2).alloc o3) := fun o1 o2 o3 => made_below _ _ (made_below _ _ (made_below _ _ (Below.refl _ _)))
  have sz : ∀ (W : World) o, (W.alloc o).heap.size = W.heap.size + 1 := fun W o => by simp
  go_enter Tryz.func44, Tryz.ntmps44
  go_wp2_with (fail)
  refine (toByteS_own ps ns cs xs _ fs oks.len (in_below oks.bytes (kA _ _ _))).mono ?_
  rintro z w1 ⟨qs, ds, rfl, Rs, b1⟩
  have D0 := (Cells.made w _ _).on (made_below _ _ (made_below _ _ b1))
  have D1 := (Cells.made (w.alloc _) #[.slice none 0 0, .int .i64 0, .slice none 0 0, .slice none 0 0] _).on (made_below _ _ b1)
  have D2 := (Cells.made ((w.alloc _).alloc _) #[.slice none 0 0, .int .i64 0, .slice none 0 0, .slice none 0 0] _).on b1
  have k1 := made_below _ _ (made_below _ _ (made_below _ _ b1))
  have y1 := b1.size
  rw [sz] at D1
  rw [sz, sz] at D2
  rw [sz, sz, sz] at y1
  have Ps := RwA.P.of_own Rs oks.hn oks.byte
  rw [sz, sz, sz] at Ps
  clear b1
  obtain ⟨B, hB⟩ : ∃ B, w.heap.size + 1 + 1 = B := ⟨_, rfl⟩
  obtain ⟨B1, hB1⟩ : ∃ B1, w.heap.size + 1 = B1 := ⟨_, rfl⟩
  obtain ⟨B0, hB0⟩ : ∃ B0, w.heap.size = B0 := ⟨_, rfl⟩
  rw [hB] at D2 y1 Ps ⊢
  rw [hB1] at D1 ⊢
  rw [hB0] at D0 k1 ⊢
  have g0 : B0 < B1 := by omega
  have g1 : B1 < B := by omega
  replace hB0 : Hid (w.heap.size = B0) := hB0
  clear hB hB1 kA sz
  have c2_0 : w1.cell? ⟨B, 0, none⟩ = some (.slice none 0 0) := (D2.2 0).1
  have z2_0 := (D2.2 0).2
  have G2_0 : Cells (w1.setCell ⟨B, 0, none⟩ (.slice qs ns ds)) B #[.slice qs ns ds, .int .i64 0, .slice none 0 0, .slice none 0 0] := D2.set 0 (by simp) (.slice qs ns ds)
  have k2 := (k1).setCell (p := ⟨B, 0, none⟩) (by show B0 ≤ B; omega) (.slice qs ns ds)
  have E2_2 := G2_0
  clear G2_0
  have n2 : Wn B (B + 1) w1 (w1.setCell ⟨B, 0, none⟩ (.slice qs ns ds)) := ((Wn.refl B (B + 1) w1)).set ⟨B, 0, none⟩ (.slice qs ns ds) ⟨Nat.le_refl _, Nat.lt_succ_self _⟩
  replace D0 := D0.pastW n2 (by omega)
  replace D1 := D1.pastW n2 (by omega)
  obtain ⟨w2, hw2⟩ : ∃ X, X = (w1.setCell ⟨B, 0, none⟩ (.slice qs ns ds)) := ⟨_, rfl⟩
  rw [← hw2] at k2 E2_2 n2 D0 D1
  replace hw2 : Hid ((w1.setCell ⟨B, 0, none⟩ (.slice qs ns ds)) = w2) := hw2.symm
  replace Ps := Ps.past n2 (by omega)
  have y2 := n2.size
  clear n2 D2
  have D2 := E2_2
  clear E2_2
  clear k1
  have a3 : w2.cell? ⟨B0, 1, none⟩ = some (.int .i64 e) := (D0.2 1).1
  have c3 : w2.cell? ⟨B, 1, none⟩ = some (.int .i64 0) := (D2.2 1).1
  have z3 := (D2.2 1).2
  have G3_0 : Cells (w2.setCell ⟨B, 1, none⟩ (.int .i64 e)) B #[.slice qs ns ds, .int .i64 e, .slice none 0 0, .slice none 0 0] := D2.set 1 (by simp) (.int .i64 e)
  have k3 := (k2).setCell (p := ⟨B, 1, none⟩) (by show B0 ≤ B; omega) (.int .i64 e)
  have E2_3 := G3_0
  clear G3_0
  have n3 : Wn B (B + 1) w2 (w2.setCell ⟨B, 1, none⟩ (.int .i64 e)) := ((Wn.refl B (B + 1) w2)).set ⟨B, 1, none⟩ (.int .i64 e) ⟨Nat.le_refl _, Nat.lt_succ_self _⟩
  replace D0 := D0.pastW n3 (by omega)
  replace D1 := D1.pastW n3 (by omega)
  obtain ⟨w3, hw3⟩ : ∃ X, X = (w2.setCell ⟨B, 1, none⟩ (.int .i64 e)) := ⟨_, rfl⟩
  rw [← hw3] at k3 E2_3 n3 D0 D1
  replace hw3 : Hid ((w2.setCell ⟨B, 1, none⟩ (.int .i64 e)) = w3) := hw3.symm
  replace Ps := Ps.past n3 (by omega)
  have y3 := n3.size
  clear n3 D2
  have D2 := E2_3
  clear E2_3
  clear k2
  have a4 : w3.cell? ⟨B0, 2, none⟩ = some (.slice pv nv cv) := (D0.2 2).1
  go_wp2_with (first | rw [hw2.out] | rw [hw3.out])
  clear c2_0 z2_0 a3 c3 z3 a4 hw2 hw3
  have kw5 : Below w.heap.size w w3 := by have q := k3; rw [← hB0.out] at q; exact q
  refine (toByteSSF_own pv nv cv xv _ fv (okv.on kw5) gv).mono ?_
  rintro z w4 ⟨qv, dv, yv, rfl, Rv, hv, b5⟩
  have k5 := below_on kw5 b5
  rw [hB0.out] at k5
  replace D0 := D0.on b5
  replace D1 := D1.on b5
  replace D2 := D2.on b5
  have y5 := b5.size
  clear kw5
  replace Ps := Ps.past (Wn.of_below (lo := 0) (hi := 0) b5) (Or.inr (Nat.zero_le _))
  have Pv := Rv
  clear k3 b5
  have c6_0 : w4.cell? ⟨B, 2, none⟩ = some (.slice none 0 0) := (D2.2 2).1
  have z6_0 := (D2.2 2).2
  have G6_0 : Cells (w4.setCell ⟨B, 2, none⟩ (.slice qv nv dv)) B #[.slice qs ns ds, .int .i64 e, .slice qv nv dv, .slice none 0 0] := D2.set 2 (by simp) (.slice qv nv dv)
  have k6 := (k5).setCell (p := ⟨B, 2, none⟩) (by show B0 ≤ B; omega) (.slice qv nv dv)
  have E2_6 := G6_0
  clear G6_0
  have n6 : Wn B (B + 1) w4 (w4.setCell ⟨B, 2, none⟩ (.slice qv nv dv)) := ((Wn.refl B (B + 1) w4)).set ⟨B, 2, none⟩ (.slice qv nv dv) ⟨Nat.le_refl _, Nat.lt_succ_self _⟩
  replace D0 := D0.pastW n6 (by omega)
  replace D1 := D1.pastW n6 (by omega)
  obtain ⟨w5, hw6⟩ : ∃ X, X = (w4.setCell ⟨B, 2, none⟩ (.slice qv nv dv)) := ⟨_, rfl⟩
  rw [← hw6] at k6 E2_6 n6 D0 D1
  replace hw6 : Hid ((w4.setCell ⟨B, 2, none⟩ (.slice qv nv dv)) = w5) := hw6.symm
  replace Ps := Ps.past n6 (by omega)
  replace Pv := Pv.past n6 (by omega)
  have y6 := n6.size
  clear n6 D2
  have D2 := E2_6
  clear E2_6
  clear k5
  have a7 : w5.cell? ⟨B0, 3, none⟩ = some (.slice pg ng cg) := (D0.2 3).1
  go_wp2_with (first | rw [hw6.out])
  clear c6_0 z6_0 a7 hw6
  have kw8 : Below w.heap.size w w5 := by have q := k6; rw [← hB0.out] at q; exact q
  refine (toByteSSF_own pg ng cg xg _ fg (okg.on kw8) gg).mono ?_
  rintro z w6 ⟨qg, dg, yg, rfl, Rg, hg, b8⟩
  have k8 := below_on kw8 b8
  rw [hB0.out] at k8
  replace D0 := D0.on b8
  replace D1 := D1.on b8
  replace D2 := D2.on b8
  have y8 := b8.size
  clear kw8
  replace Ps := Ps.past (Wn.of_below (lo := 0) (hi := 0) b8) (Or.inr (Nat.zero_le _))
  replace Pv := Pv.past (Wn.of_below (lo := 0) (hi := 0) b8) (Or.inr (Nat.zero_le _))
  have Pg := Rg
  clear k6 b8
  have c9_0 : w6.cell? ⟨B, 3, none⟩ = some (.slice none 0 0) := (D2.2 3).1
  have z9_0 := (D2.2 3).2
  have G9_0 : Cells (w6.setCell ⟨B, 3, none⟩ (.slice qg ng dg)) B #[.slice qs ns ds, .int .i64 e, .slice qv nv dv, .slice qg ng dg] := D2.set 3 (by simp) (.slice qg ng dg)
  have k9 := (k8).setCell (p := ⟨B, 3, none⟩) (by show B0 ≤ B; omega) (.slice qg ng dg)
  have E2_9 := G9_0
  clear G9_0
  have n9 : Wn B (B + 1) w6 (w6.setCell ⟨B, 3, none⟩ (.slice qg ng dg)) := ((Wn.refl B (B + 1) w6)).set ⟨B, 3, none⟩ (.slice qg ng dg) ⟨Nat.le_refl _, Nat.lt_succ_self _⟩
  replace D0 := D0.pastW n9 (by omega)
  replace D1 := D1.pastW n9 (by omega)
  obtain ⟨w7, hw9⟩ : ∃ X, X = (w6.setCell ⟨B, 3, none⟩ (.slice qg ng dg)) := ⟨_, rfl⟩
  rw [← hw9] at k9 E2_9 n9 D0 D1
  replace hw9 : Hid ((w6.setCell ⟨B, 3, none⟩ (.slice qg ng dg)) = w7) := hw9.symm
  replace Ps := Ps.past n9 (by omega)
  replace Pv := Pv.past n9 (by omega)
  replace Pg := Pg.past n9 (by omega)
  have y9 := n9.size
  clear n9 D2
  have D2 := E2_9
  clear E2_9
  clear k8
  have m0 : w7.cell? ⟨B, 0, none⟩ = some (.slice qs ns ds) := (D2.2 0).1
  have q0 : w7.cell? ⟨B1, 0, none⟩ = some (.slice none 0 0) := (D1.2 0).1
  have x0 := (D1.2 0).2
  have H10_0 : Cells (w7.setCell ⟨B1, 0, none⟩ (.slice qs ns ds)) B1 #[.slice qs ns ds, .int .i64 0, .slice none 0 0, .slice none 0 0] := D1.set 0 (by simp) (.slice qs ns ds)
  have m1 : w7.cell? ⟨B, 1, none⟩ = some (.int .i64 e) := (D2.2 1).1
  have q1 : (w7.setCell ⟨B1, 0, none⟩ (.slice qs ns ds)).cell? ⟨B1, 1, none⟩ = some (.int .i64 0) := (H10_0.2 1).1
  have x1 := (H10_0.2 1).2
  have H10_1 : Cells ((w7.setCell ⟨B1, 0, none⟩ (.slice qs ns ds)).setCell ⟨B1, 1, none⟩ (.int .i64 e)) B1 #[.slice qs ns ds, .int .i64 e, .slice none 0 0, .slice none 0 0] := H10_0.set 1 (by simp) (.int .i64 e)
  have m2 : w7.cell? ⟨B, 2, none⟩ = some (.slice qv nv dv) := (D2.2 2).1
  have q2 : ((w7.setCell ⟨B1, 0, none⟩ (.slice qs ns ds)).setCell ⟨B1, 1, none⟩ (.int .i64 e)).cell? ⟨B1, 2, none⟩ = some (.slice none 0 0) := (H10_1.2 2).1
  have x2 := (H10_1.2 2).2
  have H10_2 : Cells (((w7.setCell ⟨B1, 0, none⟩ (.slice qs ns ds)).setCell ⟨B1, 1, none⟩ (.int .i64 e)).setCell ⟨B1, 2, none⟩ (.slice qv nv dv)) B1 #[.slice qs ns ds, .int .i64 e, .slice qv nv dv, .slice none 0 0] := H10_1.set 2 (by simp) (.slice qv nv dv)
  have m3 : w7.cell? ⟨B, 3, none⟩ = some (.slice qg ng dg) := (D2.2 3).1
  have q3 : (((w7.setCell ⟨B1, 0, none⟩ (.slice qs ns ds)).setCell ⟨B1, 1, none⟩ (.int .i64 e)).setCell ⟨B1, 2, none⟩ (.slice qv nv dv)).cell? ⟨B1, 3, none⟩ = some (.slice none 0 0) := (H10_2.2 3).1
  have x3 := (H10_2.2 3).2
  clear H10_0 H10_1 H10_2
  have G10_0 : Cells (w7.setCell ⟨B1, 0, none⟩ (.slice qs ns ds)) B1 #[.slice qs ns ds, .int .i64 0, .slice none 0 0, .slice none 0 0] := D1.set 0 (by simp) (.slice qs ns ds)
  have G10_1 : Cells ((w7.setCell ⟨B1, 0, none⟩ (.slice qs ns ds)).setCell ⟨B1, 1, none⟩ (.int .i64 e)) B1 #[.slice qs ns ds, .int .i64 e, .slice none 0 0, .slice none 0 0] := G10_0.set 1 (by simp) (.int .i64 e)
  have G10_2 : Cells (((w7.setCell ⟨B1, 0, none⟩ (.slice qs ns ds)).setCell ⟨B1, 1, none⟩ (.int .i64 e)).setCell ⟨B1, 2, none⟩ (.slice qv nv dv)) B1 #[.slice qs ns ds, .int .i64 e, .slice qv nv dv, .slice none 0 0] := G10_1.set 2 (by simp) (.slice qv nv dv)
  have G10_3 : Cells ((((w7.setCell ⟨B1, 0, none⟩ (.slice qs ns ds)).setCell ⟨B1, 1, none⟩ (.int .i64 e)).setCell ⟨B1, 2, none⟩ (.slice qv nv dv)).setCell ⟨B1, 3, none⟩ (.slice qg ng dg)) B1 #[.slice qs ns ds, .int .i64 e, .slice qv nv dv, .slice qg ng dg] := G10_2.set 3 (by simp) (.slice qg ng dg)
  have k10 := ((((k9).setCell (p := ⟨B1, 0, none⟩) (by show B0 ≤ B1; omega) (.slice qs ns ds)).setCell (p := ⟨B1, 1, none⟩) (by show B0 ≤ B1; omega) (.int .i64 e)).setCell (p := ⟨B1, 2, none⟩) (by show B0 ≤ B1; omega) (.slice qv nv dv)).setCell (p := ⟨B1, 3, none⟩) (by show B0 ≤ B1; omega) (.slice qg ng dg)
  have E2_10 := G10_3
  clear G10_0 G10_1 G10_2 G10_3
  have n10 : Wn B1 (B1 + 1) w7 ((((w7.setCell ⟨B1, 0, none⟩ (.slice qs ns ds)).setCell ⟨B1, 1, none⟩ (.int .i64 e)).setCell ⟨B1, 2, none⟩ (.slice qv nv dv)).setCell ⟨B1, 3, none⟩ (.slice qg ng dg)) := (((((Wn.refl B1 (B1 + 1) w7)).set ⟨B1, 0, none⟩ (.slice qs ns ds) ⟨Nat.le_refl _, Nat.lt_succ_self _⟩).set ⟨B1, 1, none⟩ (.int .i64 e) ⟨Nat.le_refl _, Nat.lt_succ_self _⟩).set ⟨B1, 2, none⟩ (.slice qv nv dv) ⟨Nat.le_refl _, Nat.lt_succ_self _⟩).set ⟨B1, 3, none⟩ (.slice qg ng dg) ⟨Nat.le_refl _, Nat.lt_succ_self _⟩
  obtain ⟨w8, hw10⟩ : ∃ X, X = ((((w7.setCell ⟨B1, 0, none⟩ (.slice qs ns ds)).setCell ⟨B1, 1, none⟩ (.int .i64 e)).setCell ⟨B1, 2, none⟩ (.slice qv nv dv)).setCell ⟨B1, 3, none⟩ (.slice qg ng dg)) := ⟨_, rfl⟩
  rw [← hw10] at k10 E2_10 n10
  replace hw10 : Hid (((((w7.setCell ⟨B1, 0, none⟩ (.slice qs ns ds)).setCell ⟨B1, 1, none⟩ (.int .i64 e)).setCell ⟨B1, 2, none⟩ (.slice qv nv dv)).setCell ⟨B1, 3, none⟩ (.slice qg ng dg)) = w8) := hw10.symm
  replace Ps := Ps.past n10 (by omega)
  replace Pv := Pv.past n10 (by omega)
  replace Pg := Pg.past n10 (by omega)
  have y10 := n10.size
  clear n10 D1
  have D1 := E2_10
  clear E2_10
  clear k9
  have u0 : w8.cell? ⟨B1, 0, none⟩ = some (.slice qs ns ds) := (D1.2 0).1
  have u1 : w8.cell? ⟨B1, 1, none⟩ = some (.int .i64 e) := (D1.2 1).1
  have u2 : w8.cell? ⟨B1, 2, none⟩ = some (.slice qv nv dv) := (D1.2 2).1
  have u3 : w8.cell? ⟨B1, 3, none⟩ = some (.slice qg ng dg) := (D1.2 3).1
  clear D1 D2 D0
  go_wp2_with (first | rw [hw9.out] | rw [hw10.out])
  clear c9_0 z9_0 m0 q0 x0 m1 q1 x1 m2 q2 x2 m3 q3 x3 hw9 hw10
  rw [← hB0.out] at k10 g0
  refine bodyPost_ret (v := .agg #[.slice qs ns ds, .int .i64 e, .slice qv nv dv, .slice qg ng dg]) ?_ rfl ⟨qs, ds, qv, dv, yv, qg, dg, yg, w1.heap.size, w4.heap.size, rfl, Ps.wide (by omega) (by omega), Pv.wide (by omega) (by omega), Pg.wide (by omega) (by omega), by omega, by omega, by omega, hv, hg, k10⟩
  simp only [results, Tryz.f44]
  go_simp

set_option maxHeartbeats 4000000 in
theorem eqReaderF_true (ps : Option Addr) (ns cs : Nat) (e : Int) (pv : Option Addr) (nv cv : Nat) (pg : Option Addr) (ng cg : Nat) (ps' : Option Addr) (ns' cs' : Nat) (pv' : Option Addr) (nv' cv' : Nat) (pg' : Option Addr) (ng' cg' : Nat) (xs : List Int) (xv : List Rc) (xg : List Rc) (xv' : List Rc) (xg' : List Rc) (w : World) (oks : RwA.Ok w ⟨ps, ns, cs, xs⟩) (okv : RecA w 1 RowSh pv nv xv) (okg : RecA w 1 RowSh pg ng xg) (oks' : RwA.Ok w ⟨ps', ns', cs', xs⟩) (okv' : RecA w 1 RowSh pv' nv' xv') (okg' : RecA w 1 RowSh pg' ng' xg') (hv : Hid (xv.map Rc.con = xv'.map Rc.con)) (hg : Hid (xg.map Rc.con = xg'.map Rc.con)) : Calls Tryz.prog 25 #[.agg #[.slice ps ns cs, .int .i64 e, .slice pv nv cv, .slice pg ng cg], .agg #[.slice ps' ns' cs', .int .i64 e, .slice pv' nv' cv', .slice pg' ng' cg']] w fun z w' => z = .returned (.bool true) ∧ Below w.heap.size w w' := by
  have kA : ∀ o1 o2, Below w.heap.size w ((w.alloc o1).alloc o2) := fun o1 o2 => made_below _ _ (made_below _ _ (Below.refl _ _))
  have sz : ∀ (W : World) o, (W.alloc o).heap.size = W.heap.size + 1 := fun W o => by simp
  have n_e : (e != e) = false := by simp
  go_enter Tryz.func25, Tryz.ntmps25
  go_wp2_with (fail)
  refine (eqBytes_true ps ps' ns ns' cs cs' xs w _ oks oks' (kA _ _)).mono ?_
  rintro z w1 ⟨rfl, b1⟩
  have D1 := (Cells.made w _ _).on (made_below _ _ b1)
  have D2 := (Cells.made (w.alloc _) _ _).on b1
  have k1 := made_below _ _ (made_below _ _ b1)
  rw [sz] at D2
  clear kA sz b1
  have l1 : w1.cell? ⟨w.heap.size, 1, none⟩ = some (.int .i64 e) := (D1.2 1).1
  have r1 : w1.cell? ⟨w.heap.size + 1, 1, none⟩ = some (.int .i64 e) := (D2.2 1).1
  have l2 : w1.cell? ⟨w.heap.size, 2, none⟩ = some (.slice pv nv cv) := (D1.2 2).1
  have r2 : w1.cell? ⟨w.heap.size + 1, 2, none⟩ = some (.slice pv' nv' cv') := (D2.2 2).1
  go_wp2_with (fail)
  clear l1 r1 l2 r2
  refine (eqByteSSF_true pv pv' nv nv' cv cv' xv xv' _ (okv.on k1) (okv'.on k1) hv).mono ?_
  rintro z w2 ⟨rfl, b2⟩
  replace D1 := D1.on b2
  replace D2 := D2.on b2
  have k2 := below_on k1 b2
  clear k1 b2
  have l3 : w2.cell? ⟨w.heap.size, 3, none⟩ = some (.slice pg ng cg) := (D1.2 3).1
  have r3 : w2.cell? ⟨w.heap.size + 1, 3, none⟩ = some (.slice pg' ng' cg') := (D2.2 3).1
  go_wp2_with (fail)
  clear l3 r3
  refine (eqByteSSF_true pg pg' ng ng' cg cg' xg xg' _ (okg.on k2) (okg'.on k2) hg).mono ?_
  rintro z w3 ⟨rfl, b3⟩
  replace D1 := D1.on b3
  replace D2 := D2.on b3
  have k3 := below_on k2 b3
  clear k2 b3
  go_wp2_with (fail)
  go_ret
  exact ⟨rfl, k3⟩

set_option maxHeartbeats 8000000 in
theorem markReaderF_sh (ps : Option Addr) (ns cs : Nat) (e : Int) (pv : Option Addr) (nv cv : Nat) (pg : Option Addr) (ng cg : Nat) (xs : List Int) (xv : List Rc) (xg : List Rc) (lo hi k0 : Nat) (Ks : Nat) (Kv : Nat) (w : World) (Ps : RwA.P w lo Ks ⟨ps, ns, cs, xs⟩) (Pv : RecP w Ks Kv 1 RowSh pv nv xv) (Pg : RecP w Kv hi 1 RowSh pg ng xg) (s0 : lo ≤ Ks) (s1 : Ks ≤ Kv) (s2 : Kv ≤ hi) (hhi : hi ≤ w.heap.size) (hk0 : 0 < k0) (hkk : k0 + (ns + costF xv + costF xg) ≤ 100000000) : Calls Tryz.prog 29 #[.agg #[.slice ps ns cs, .int .i64 e, .slice pv nv cv, .slice pg ng cg], .int .i64 (k0 : Int)] w fun e w' => e = .returned (.int .i64 ((k0 + (ns + costF xv + costF xg) : Nat) : Int)) ∧ Wn lo hi w w' := by
  obtain ⟨k1, hk1⟩ : ∃ q : Nat, q = k0 + ns := ⟨_, rfl⟩
  obtain ⟨k2, hk2⟩ : ∃ q : Nat, q = k1 + costF xv := ⟨_, rfl⟩
  obtain ⟨k3, hk3⟩ : ∃ q : Nat, q = k2 + costF xg := ⟨_, rfl⟩
  have r1 : 0 < k1 ∧ k1 ≤ 100000000 := by omega
  have b0 : k0 + ns ≤ 100000000 := by omega
  have r2 : 0 < k2 ∧ k2 ≤ 100000000 := by omega
  have b1 : k1 + costF xv ≤ 100000000 := by omega
  have r3 : 0 < k3 ∧ k3 ≤ 100000000 := by omega
  have b2 : k2 + costF xg ≤ 100000000 := by omega
  have e1 : (k0 : Int) + (ns : Int) = (k1 : Int) := by omega
  have fn0 : ns ≤ 1099511627776 := by omega
  have hsum : k0 + (ns + costF xv + costF xg) = k3 := by omega
  rw [hsum]
  clear hsum hkk
  replace hk1 : Hid (k1 = k0 + ns) := hk1
  replace hk2 : Hid (k2 = k1 + costF xv) := hk2
  replace hk3 : Hid (k3 = k2 + costF xg) := hk3
  have kA : ∀ o, Below w.heap.size w (w.alloc o) := fun o => made_below _ _ (Below.refl _ _)
  go_enter Tryz.func29, Tryz.ntmps29
  go_wp2_with (fail)
  refine (markByteS_sh lo Ks ps ns cs (k0 : Int) _ fn0 (by omega) (by omega) ((Ps.past (Wn.of_below (lo := 0) (hi := 0) (kA _)) (Or.inr (Nat.zero_le _)))).sh).mono ?_
  rintro z w1 ⟨rfl, hW1, _⟩
  have D := (Cells.made w _ _).pastW hW1 (Or.inr (by omega))
  replace Pv := (Pv.past (Wn.of_below (lo := 0) (hi := 0) (kA _)) (Or.inr (Nat.zero_le _))).past hW1 (by omega)
  replace Pg := (Pg.past (Wn.of_below (lo := 0) (hi := 0) (kA _)) (Or.inr (Nat.zero_le _))).past hW1 (by omega)
  have V1 : Wn lo hi w w1 := (Wn.of_below (kA _)).trans (hW1.wide (by omega) (by omega))
  have y1 := V1.size
  rw [e1]
  have l2 : w1.cell? ⟨w.heap.size, 2, none⟩ = some (.slice pv nv cv) := (D.2 2).1
  clear hW1
  go_wp2_with (fail)
  clear l2
  refine (markByteSS_sh Ks Kv pv nv cv k1 xv _ (by omega) b1 Pv).mono ?_
  rintro z w2 ⟨rfl, hW2⟩
  replace D := D.pastW hW2 (Or.inr (by omega))
  replace Pg := Pg.past hW2 (by omega)
  have V2 := V1.trans (hW2.wide (lo' := lo) (hi' := hi) (by omega) (by omega))
  clear V1 y1
  have y2 := V2.size
  rw [show k1 + costF xv = k2 from hk2.out.symm]
  have l3 : w2.cell? ⟨w.heap.size, 3, none⟩ = some (.slice pg ng cg) := (D.2 3).1
  clear hW2
  go_wp2_with (fail)
  clear l3
  refine (markByteSS_sh Kv hi pg ng cg k2 xg _ (by omega) b2 Pg).mono ?_
  rintro z w3 ⟨rfl, hW3⟩
  replace D := D.pastW hW3 (Or.inr (by omega))
  have V3 := V2.trans (hW3.wide (lo' := lo) (hi' := hi) (by omega) (by omega))
  clear V2 y2
  have y3 := V3.size
  rw [show k2 + costF xg = k3 from hk3.out.symm]
  clear hW3
  go_wp2_with (fail)
  go_ret
  exact ⟨rfl, V3⟩

end Go.Proofs.YthfnechcddmjkaaGreatDoor

namespace Go.Proofs.YthfnechcddmjkaaGreatDoor
open Go.RowKit
set_option maxRecDepth 100000

set_option maxHeartbeats 4000000 in
theorem szWorldF_any (pj : Option Addr) (nj cj : Nat) (cn : Int) (kn : Int) (pq : Option Addr) (nq cq : Nat) (t : Int) (pb : Option Addr) (nb cb : Nat) (u : Int) (ps : Option Addr) (ns cs : Nat) (e : Int) (pv : Option Addr) (nv cv : Nat) (pg : Option Addr) (ng cg : Nat) (pw : Option Addr) (nw cw : Nat) (pz : Option Addr) (nz cz : Nat) (xj : List Int) (xq : List Rc) (xb : List Int) (xs : List Int) (xv : List Rc) (xg : List Rc) (xw : List Rc) (xz : List Rc) (l : Int) (w : World) (okj : RwA.Ok w ⟨pj, nj, cj, xj⟩) (okq : RecA w 4 ItemSh pq nq xq) (okb : RwA.Ok w ⟨pb, nb, cb, xb⟩) (oks : RwA.Ok w ⟨ps, ns, cs, xs⟩) (okv : RecA w 1 RowSh pv nv xv) (okg : RecA w 1 RowSh pg ng xg) (okw : RecA w 6 WireSh pw nw xw) (okz : RecA w 4 SentSh pz nz xz) (hl : 0 ≤ l ∧ l ≤ 1048576) : Calls Tryz.prog 13 #[.agg #[.slice pj nj cj, .int .i64 cn, .int .i64 kn, .slice pq nq cq, .int .i64 t, .slice pb nb cb, .int .i64 u, .slice ps ns cs, .int .i64 e, .slice pv nv cv, .slice pg ng cg, .slice pw nw cw, .slice pz nz cz], .int .i64 l] w fun e w' => e = .returned (.int .i64 (if ((nj + ((nq + totF xq) + nb) + (ns + (nv + totF xv) + (ng + totF xg)) + (nw + totF xw) + (nz + totF xz) : Nat) : Int) ≤ l then l - ((nj + ((nq + totF xq) + nb) + (ns + (nv + totF xv) + (ng + totF xg)) + (nw + totF xw) + (nz + totF xz) : Nat) : Int) else -1)) ∧ Below w.heap.size w w' := by
  have kA : ∀ o, Below w.heap.size w (w.alloc o) := fun o => made_below _ _ (Below.refl _ _)
  obtain ⟨T0, hT0⟩ : ∃ T : Nat, T = nj := ⟨_, rfl⟩
  obtain ⟨T1, hT1⟩ : ∃ T : Nat, T = ((nq + totF xq) + nb) := ⟨_, rfl⟩
  obtain ⟨T2, hT2⟩ : ∃ T : Nat, T = (ns + (nv + totF xv) + (ng + totF xg)) := ⟨_, rfl⟩
  obtain ⟨T3, hT3⟩ : ∃ T : Nat, T = (nw + totF xw) := ⟨_, rfl⟩
  obtain ⟨T4, hT4⟩ : ∃ T : Nat, T = (nz + totF xz) := ⟨_, rfl⟩
  have hTT : nj + ((nq + totF xq) + nb) + (ns + (nv + totF xv) + (ng + totF xg)) + (nw + totF xw) + (nz + totF xz) = T0 + T1 + T2 + T3 + T4 := by simp only [hT0, hT1, hT2, hT3, hT4]
  rw [hTT]
  clear hTT
  by_cases h0 : (T0 : Int) ≤ l
  · obtain ⟨l1, m0⟩ : ∃ q : Int, q = l - T0 := ⟨_, rfl⟩
    have g0 : 0 ≤ l1 ∧ l1 ≤ 1048576 := by omega
    have t0 : ¬ l1 < 0 := by omega
    have C0 := fun X (k : Below w.heap.size w X) => szByteS_any pj nj cj l X okj.hn hl
    rw [if_pos (show ((nj : Nat) : Int) ≤ l by omega), show l - ((nj : Nat) : Int) = l1 by omega] at C0
    by_cases h1 : (T1 : Int) ≤ l1
    · obtain ⟨l2, m1⟩ : ∃ q : Int, q = l1 - T1 := ⟨_, rfl⟩
      have g1 : 0 ≤ l2 ∧ l2 ≤ 1048576 := by omega
      have t1 : ¬ l2 < 0 := by omega
      have C1 := fun X (k : Below w.heap.size w X) => szPostF_any pq nq cq t pb nb cb u xq xb l1 X (okq.on k) (okb.on k) g0
      rw [if_pos (show ((((nq + totF xq) + nb) : Nat) : Int) ≤ l1 by omega), show l1 - ((((nq + totF xq) + nb) : Nat) : Int) = l2 by omega] at C1
      by_cases h2 : (T2 : Int) ≤ l2
      · obtain ⟨l3, m2⟩ : ∃ q : Int, q = l2 - T2 := ⟨_, rfl⟩
        have g2 : 0 ≤ l3 ∧ l3 ≤ 1048576 := by omega
        have t2 : ¬ l3 < 0 := by omega
        have C2 := fun X (k : Below w.heap.size w X) => szReaderF_any ps ns cs e pv nv cv pg ng cg xs xv xg l2 X (oks.on k) (okv.on k) (okg.on k) g1
        rw [if_pos (show (((ns + (nv + totF xv) + (ng + totF xg)) : Nat) : Int) ≤ l2 by omega), show l2 - (((ns + (nv + totF xv) + (ng + totF xg)) : Nat) : Int) = l3 by omega] at C2
        by_cases h3 : (T3 : Int) ≤ l3
        · obtain ⟨l4, m3⟩ : ∃ q : Int, q = l3 - T3 := ⟨_, rfl⟩
          have g3 : 0 ≤ l4 ∧ l4 ≤ 1048576 := by omega
          have t3 : ¬ l4 < 0 := by omega
          have C3 := fun X (k : Below w.heap.size w X) => szWireSF_any pw nw cw xw l3 X (okw.on k) g2
          rw [if_pos (show (((nw + totF xw) : Nat) : Int) ≤ l3 by omega), show l3 - (((nw + totF xw) : Nat) : Int) = l4 by omega] at C3
          by_cases h4 : (T4 : Int) ≤ l4
          · obtain ⟨l5, m4⟩ : ∃ q : Int, q = l4 - T4 := ⟨_, rfl⟩
            have g4 : 0 ≤ l5 ∧ l5 ≤ 1048576 := by omega
            have t4 : ¬ l5 < 0 := by omega
            have C4 := fun X (k : Below w.heap.size w X) => szSentSF_any pz nz cz xz l4 X (okz.on k) g3
            rw [if_pos (show (((nz + totF xz) : Nat) : Int) ≤ l4 by omega), show l4 - (((nz + totF xz) : Nat) : Int) = l5 by omega] at C4
            rw [if_pos (by omega), show l - ((T0 + T1 + T2 + T3 + T4 : Nat) : Int) = l5 by omega]
            clear h0 m0 hT0 h1 m1 hT1 h2 m2 hT2 h3 m3 hT3 h4 m4 hT4
            go_enter Tryz.func13, Tryz.ntmps13
            go_wp2_with (fail)
            refine (C0 _ (kA _)).mono ?_
            rintro z w0 ⟨rfl, b0⟩
            have D := (Cells.made w _ _).on b0
            have k0 := made_below _ _ b0
            have a0 : w0.cell? ⟨w.heap.size, 3, none⟩ = some (.slice pq nq cq) := (D.2 3).1
            have a1 : w0.cell? ⟨w.heap.size, 4, none⟩ = some (.int .i64 t) := (D.2 4).1
            have a2 : w0.cell? ⟨w.heap.size, 5, none⟩ = some (.slice pb nb cb) := (D.2 5).1
            have a3 : w0.cell? ⟨w.heap.size, 6, none⟩ = some (.int .i64 u) := (D.2 6).1
            clear b0
            go_wp2_with (fail)
            clear a0 a1 a2 a3
            refine (C1 _ k0).mono ?_
            rintro z w1 ⟨rfl, b1⟩
            replace D := D.on b1
            have k1 := below_on k0 b1
            have a0 : w1.cell? ⟨w.heap.size, 7, none⟩ = some (.slice ps ns cs) := (D.2 7).1
            have a1 : w1.cell? ⟨w.heap.size, 8, none⟩ = some (.int .i64 e) := (D.2 8).1
            have a2 : w1.cell? ⟨w.heap.size, 9, none⟩ = some (.slice pv nv cv) := (D.2 9).1
            have a3 : w1.cell? ⟨w.heap.size, 10, none⟩ = some (.slice pg ng cg) := (D.2 10).1
            clear b1
            go_wp2_with (fail)
            clear a0 a1 a2 a3
            refine (C2 _ k1).mono ?_
            rintro z w2 ⟨rfl, b2⟩
            replace D := D.on b2
            have k2 := below_on k1 b2
            have a0 : w2.cell? ⟨w.heap.size, 11, none⟩ = some (.slice pw nw cw) := (D.2 11).1
            clear b2
            go_wp2_with (fail)
            clear a0
            refine (C3 _ k2).mono ?_
            rintro z w3 ⟨rfl, b3⟩
            replace D := D.on b3
            have k3 := below_on k2 b3
            have a0 : w3.cell? ⟨w.heap.size, 12, none⟩ = some (.slice pz nz cz) := (D.2 12).1
            clear b3
            go_wp2_with (fail)
            clear a0
            refine (C4 _ k3).mono ?_
            rintro z w4 ⟨rfl, b4⟩
            replace D := D.on b4
            have k4 := below_on k3 b4
            clear b4 D
            go_wp2_with (fail)
            go_ret
            exact ⟨rfl, k4⟩
          · rw [if_neg (by omega)]
            have C4 := fun X (k : Below w.heap.size w X) => szSentSF_any pz nz cz xz l4 X (okz.on k) g3
            rw [if_neg (show ¬ (((nz + totF xz) : Nat) : Int) ≤ l4 by omega)] at C4
            clear h0 m0 hT0 h1 m1 hT1 h2 m2 hT2 h3 m3 hT3 h4 hT4
            go_enter Tryz.func13, Tryz.ntmps13
            go_wp2_with (fail)
            refine (C0 _ (kA _)).mono ?_
            rintro z w0 ⟨rfl, b0⟩
            have D := (Cells.made w _ _).on b0
            have k0 := made_below _ _ b0
            have a0 : w0.cell? ⟨w.heap.size, 3, none⟩ = some (.slice pq nq cq) := (D.2 3).1
            have a1 : w0.cell? ⟨w.heap.size, 4, none⟩ = some (.int .i64 t) := (D.2 4).1
            have a2 : w0.cell? ⟨w.heap.size, 5, none⟩ = some (.slice pb nb cb) := (D.2 5).1
            have a3 : w0.cell? ⟨w.heap.size, 6, none⟩ = some (.int .i64 u) := (D.2 6).1
            clear b0
            go_wp2_with (fail)
            clear a0 a1 a2 a3
            refine (C1 _ k0).mono ?_
            rintro z w1 ⟨rfl, b1⟩
            replace D := D.on b1
            have k1 := below_on k0 b1
            have a0 : w1.cell? ⟨w.heap.size, 7, none⟩ = some (.slice ps ns cs) := (D.2 7).1
            have a1 : w1.cell? ⟨w.heap.size, 8, none⟩ = some (.int .i64 e) := (D.2 8).1
            have a2 : w1.cell? ⟨w.heap.size, 9, none⟩ = some (.slice pv nv cv) := (D.2 9).1
            have a3 : w1.cell? ⟨w.heap.size, 10, none⟩ = some (.slice pg ng cg) := (D.2 10).1
            clear b1
            go_wp2_with (fail)
            clear a0 a1 a2 a3
            refine (C2 _ k1).mono ?_
            rintro z w2 ⟨rfl, b2⟩
            replace D := D.on b2
            have k2 := below_on k1 b2
            have a0 : w2.cell? ⟨w.heap.size, 11, none⟩ = some (.slice pw nw cw) := (D.2 11).1
            clear b2
            go_wp2_with (fail)
            clear a0
            refine (C3 _ k2).mono ?_
            rintro z w3 ⟨rfl, b3⟩
            replace D := D.on b3
            have k3 := below_on k2 b3
            have a0 : w3.cell? ⟨w.heap.size, 12, none⟩ = some (.slice pz nz cz) := (D.2 12).1
            clear b3
            go_wp2_with (fail)
            clear a0
            refine (C4 _ k3).mono ?_
            rintro z w4 ⟨rfl, b4⟩
            replace D := D.on b4
            have k4 := below_on k3 b4
            clear b4 D
            go_wp2_with (fail)
            go_ret
            exact ⟨rfl, k4⟩
        · rw [if_neg (by omega)]
          have C3 := fun X (k : Below w.heap.size w X) => szWireSF_any pw nw cw xw l3 X (okw.on k) g2
          rw [if_neg (show ¬ (((nw + totF xw) : Nat) : Int) ≤ l3 by omega)] at C3
          clear h0 m0 hT0 h1 m1 hT1 h2 m2 hT2 h3 hT3
          go_enter Tryz.func13, Tryz.ntmps13
          go_wp2_with (fail)
          refine (C0 _ (kA _)).mono ?_
          rintro z w0 ⟨rfl, b0⟩
          have D := (Cells.made w _ _).on b0
          have k0 := made_below _ _ b0
          have a0 : w0.cell? ⟨w.heap.size, 3, none⟩ = some (.slice pq nq cq) := (D.2 3).1
          have a1 : w0.cell? ⟨w.heap.size, 4, none⟩ = some (.int .i64 t) := (D.2 4).1
          have a2 : w0.cell? ⟨w.heap.size, 5, none⟩ = some (.slice pb nb cb) := (D.2 5).1
          have a3 : w0.cell? ⟨w.heap.size, 6, none⟩ = some (.int .i64 u) := (D.2 6).1
          clear b0
          go_wp2_with (fail)
          clear a0 a1 a2 a3
          refine (C1 _ k0).mono ?_
          rintro z w1 ⟨rfl, b1⟩
          replace D := D.on b1
          have k1 := below_on k0 b1
          have a0 : w1.cell? ⟨w.heap.size, 7, none⟩ = some (.slice ps ns cs) := (D.2 7).1
          have a1 : w1.cell? ⟨w.heap.size, 8, none⟩ = some (.int .i64 e) := (D.2 8).1
          have a2 : w1.cell? ⟨w.heap.size, 9, none⟩ = some (.slice pv nv cv) := (D.2 9).1
          have a3 : w1.cell? ⟨w.heap.size, 10, none⟩ = some (.slice pg ng cg) := (D.2 10).1
          clear b1
          go_wp2_with (fail)
          clear a0 a1 a2 a3
          refine (C2 _ k1).mono ?_
          rintro z w2 ⟨rfl, b2⟩
          replace D := D.on b2
          have k2 := below_on k1 b2
          have a0 : w2.cell? ⟨w.heap.size, 11, none⟩ = some (.slice pw nw cw) := (D.2 11).1
          clear b2
          go_wp2_with (fail)
          clear a0
          refine (C3 _ k2).mono ?_
          rintro z w3 ⟨rfl, b3⟩
          replace D := D.on b3
          have k3 := below_on k2 b3
          clear b3 D
          go_wp2_with (fail)
          go_ret
          exact ⟨rfl, k3⟩
      · rw [if_neg (by omega)]
        have C2 := fun X (k : Below w.heap.size w X) => szReaderF_any ps ns cs e pv nv cv pg ng cg xs xv xg l2 X (oks.on k) (okv.on k) (okg.on k) g1
        rw [if_neg (show ¬ (((ns + (nv + totF xv) + (ng + totF xg)) : Nat) : Int) ≤ l2 by omega)] at C2
        clear h0 m0 hT0 h1 m1 hT1 h2 hT2
        go_enter Tryz.func13, Tryz.ntmps13
        go_wp2_with (fail)
        refine (C0 _ (kA _)).mono ?_
        rintro z w0 ⟨rfl, b0⟩
        have D := (Cells.made w _ _).on b0
        have k0 := made_below _ _ b0
        have a0 : w0.cell? ⟨w.heap.size, 3, none⟩ = some (.slice pq nq cq) := (D.2 3).1
        have a1 : w0.cell? ⟨w.heap.size, 4, none⟩ = some (.int .i64 t) := (D.2 4).1
        have a2 : w0.cell? ⟨w.heap.size, 5, none⟩ = some (.slice pb nb cb) := (D.2 5).1
        have a3 : w0.cell? ⟨w.heap.size, 6, none⟩ = some (.int .i64 u) := (D.2 6).1
        clear b0
        go_wp2_with (fail)
        clear a0 a1 a2 a3
        refine (C1 _ k0).mono ?_
        rintro z w1 ⟨rfl, b1⟩
        replace D := D.on b1
        have k1 := below_on k0 b1
        have a0 : w1.cell? ⟨w.heap.size, 7, none⟩ = some (.slice ps ns cs) := (D.2 7).1
        have a1 : w1.cell? ⟨w.heap.size, 8, none⟩ = some (.int .i64 e) := (D.2 8).1
        have a2 : w1.cell? ⟨w.heap.size, 9, none⟩ = some (.slice pv nv cv) := (D.2 9).1
        have a3 : w1.cell? ⟨w.heap.size, 10, none⟩ = some (.slice pg ng cg) := (D.2 10).1
        clear b1
        go_wp2_with (fail)
        clear a0 a1 a2 a3
        refine (C2 _ k1).mono ?_
        rintro z w2 ⟨rfl, b2⟩
        replace D := D.on b2
        have k2 := below_on k1 b2
        clear b2 D
        go_wp2_with (fail)
        go_ret
        exact ⟨rfl, k2⟩
    · rw [if_neg (by omega)]
      have C1 := fun X (k : Below w.heap.size w X) => szPostF_any pq nq cq t pb nb cb u xq xb l1 X (okq.on k) (okb.on k) g0
      rw [if_neg (show ¬ ((((nq + totF xq) + nb) : Nat) : Int) ≤ l1 by omega)] at C1
      clear h0 m0 hT0 h1 hT1
      go_enter Tryz.func13, Tryz.ntmps13
      go_wp2_with (fail)
      refine (C0 _ (kA _)).mono ?_
      rintro z w0 ⟨rfl, b0⟩
      have D := (Cells.made w _ _).on b0
      have k0 := made_below _ _ b0
      have a0 : w0.cell? ⟨w.heap.size, 3, none⟩ = some (.slice pq nq cq) := (D.2 3).1
      have a1 : w0.cell? ⟨w.heap.size, 4, none⟩ = some (.int .i64 t) := (D.2 4).1
      have a2 : w0.cell? ⟨w.heap.size, 5, none⟩ = some (.slice pb nb cb) := (D.2 5).1
      have a3 : w0.cell? ⟨w.heap.size, 6, none⟩ = some (.int .i64 u) := (D.2 6).1
      clear b0
      go_wp2_with (fail)
      clear a0 a1 a2 a3
      refine (C1 _ k0).mono ?_
      rintro z w1 ⟨rfl, b1⟩
      replace D := D.on b1
      have k1 := below_on k0 b1
      clear b1 D
      go_wp2_with (fail)
      go_ret
      exact ⟨rfl, k1⟩
  · rw [if_neg (by omega)]
    have C0 := fun X (k : Below w.heap.size w X) => szByteS_any pj nj cj l X okj.hn hl
    rw [if_neg (show ¬ ((nj : Nat) : Int) ≤ l by omega)] at C0
    clear  h0 hT0
    go_enter Tryz.func13, Tryz.ntmps13
    go_wp2_with (fail)
    refine (C0 _ (kA _)).mono ?_
    rintro z w0 ⟨rfl, b0⟩
    have D := (Cells.made w _ _).on b0
    have k0 := made_below _ _ b0
    clear b0 D
    go_wp2_with (fail)
    go_ret
    exact ⟨rfl, k0⟩

set_option maxHeartbeats 16000000 in
theorem toWorldF_own (pj : Option Addr) (nj cj : Nat) (cn : Int) (kn : Int) (pq : Option Addr) (nq cq : Nat) (t : Int) (pb : Option Addr) (nb cb : Nat) (u : Int) (ps : Option Addr) (ns cs : Nat) (e : Int) (pv : Option Addr) (nv cv : Nat) (pg : Option Addr) (ng cg : Nat) (pw : Option Addr) (nw cw : Nat) (pz : Option Addr) (nz cz : Nat) (xj : List Int) (xq : List Rc) (xb : List Int) (xs : List Int) (xv : List Rc) (xg : List Rc) (xw : List Rc) (xz : List Rc) (w : World) (okj : RwA.Ok w ⟨pj, nj, cj, xj⟩) (okq : RecA w 4 ItemSh pq nq xq) (okb : RwA.Ok w ⟨pb, nb, cb, xb⟩) (oks : RwA.Ok w ⟨ps, ns, cs, xs⟩) (okv : RecA w 1 RowSh pv nv xv) (okg : RecA w 1 RowSh pg ng xg) (okw : RecA w 6 WireSh pw nw xw) (okz : RecA w 4 SentSh pz nz xz) (fj : nj ≤ 1048576) (fq : nq ≤ 1048576) (gq : ∀ x ∈ xq, ∀ f ∈ x, f.fit) (fb : nb ≤ 1048576) (fs : ns ≤ 1048576) (fv : nv ≤ 1048576) (gv : ∀ x ∈ xv, ∀ f ∈ x, f.fit) (fg : ng ≤ 1048576) (gg : ∀ x ∈ xg, ∀ f ∈ x, f.fit) (fw : nw ≤ 1048576) (gw : ∀ x ∈ xw, ∀ f ∈ x, f.fit) (fz : nz ≤ 1048576) (gz : ∀ x ∈ xz, ∀ f ∈ x, f.fit) : Calls Tryz.prog 15 #[.agg #[.slice pj nj cj, .int .i64 cn, .int .i64 kn, .slice pq nq cq, .int .i64 t, .slice pb nb cb, .int .i64 u, .slice ps ns cs, .int .i64 e, .slice pv nv cv, .slice pg ng cg, .slice pw nw cw, .slice pz nz cz]] w fun z w' => ∃ qj dj qq dq yq qb db qs ds qv dv yv qg dg yg qw dw yw qz dz yz Kj Kq Kb Ks Kv Kg Kw, z = .returned (.agg #[.slice qj nj dj, .int .i64 cn, .int .i64 kn, .slice qq nq dq, .int .i64 t, .slice qb nb db, .int .i64 u, .slice qs ns ds, .int .i64 e, .slice qv nv dv, .slice qg ng dg, .slice qw nw dw, .slice qz nz dz]) ∧ RwA.P w' w.heap.size Kj ⟨qj, nj, dj, xj⟩ ∧ RecP w' Kj Kq 4 ItemSh qq nq yq ∧ RwA.P w' Kq Kb ⟨qb, nb, db, xb⟩ ∧ RwA.P w' Kb Ks ⟨qs, ns, ds, xs⟩ ∧ RecP w' Ks Kv 1 RowSh qv nv yv ∧ RecP w' Kv Kg 1 RowSh qg ng yg ∧ RecP w' Kg Kw 6 WireSh qw nw yw ∧ RecP w' Kw w'.heap.size 4 SentSh qz nz yz ∧ w.heap.size ≤ Kj ∧ Kj ≤ Kq ∧ Kq ≤ Kb ∧ Kb ≤ Ks ∧ Ks ≤ Kv ∧ Kv ≤ Kg ∧ Kg ≤ Kw ∧ Kw ≤ w'.heap.size ∧ Hid (yq.map Rc.con = xq.map Rc.con) ∧ Hid (yv.map Rc.con = xv.map Rc.con) ∧ Hid (yg.map Rc.con = xg.map Rc.con) ∧ Hid (yw.map Rc.con = xw.map Rc.con) ∧ Hid (yz.map Rc.con = xz.map Rc.con) ∧ Below w.heap.size w w' := by
  have kA : ∀ o1 o2 o3, Below w.heap.size w (((w.alloc o1).alloc o2).alloc o3) := fun o1 o2 o3 => made_below _ _ (made_below _ _ (made_below _ _ (Below.refl _ _)))
  have sz : ∀ (W : World) o, (W.alloc o).heap.size = W.heap.size + 1 := fun W o => by simp
  go_enter Tryz.func15, Tryz.ntmps15
  go_wp2_with (fail)
  refine (toByteS_own pj nj cj xj _ fj okj.len (in_below okj.bytes (kA _ _ _))).mono ?_
  rintro z w1 ⟨qj, dj, rfl, Rj, b1⟩
  have D0 := (Cells.made w _ _).on (made_below _ _ (made_below _ _ b1))
  have D1 := (Cells.made (w.alloc _) #[.slice none 0 0, .int .i64 0, .int .i64 0, .slice none 0 0, .int .i64 0, .slice none 0 0, .int .i64 0, .slice none 0 0, .int .i64 0, .slice none 0 0, .slice none 0 0, .slice none 0 0, .slice none 0 0] _).on (made_below _ _ b1)
  have D2 := (Cells.made ((w.alloc _).alloc _) #[.slice none 0 0, .int .i64 0, .int .i64 0, .slice none 0 0, .int .i64 0, .slice none 0 0, .int .i64 0, .slice none 0 0, .int .i64 0, .slice none 0 0, .slice none 0 0, .slice none 0 0, .slice none 0 0] _).on b1
  have k1 := made_below _ _ (made_below _ _ (made_below _ _ b1))
  have y1 := b1.size
  rw [sz] at D1
  rw [sz, sz] at D2
  rw [sz, sz, sz] at y1
  have Pj := RwA.P.of_own Rj okj.hn okj.byte
  rw [sz, sz, sz] at Pj
  clear b1
  obtain ⟨B, hB⟩ : ∃ B, w.heap.size + 1 + 1 = B := ⟨_, rfl⟩
  obtain ⟨B1, hB1⟩ : ∃ B1, w.heap.size + 1 = B1 := ⟨_, rfl⟩
  obtain ⟨B0, hB0⟩ : ∃ B0, w.heap.size = B0 := ⟨_, rfl⟩
  rw [hB] at D2 y1 Pj ⊢
  rw [hB1] at D1 ⊢
  rw [hB0] at D0 k1 ⊢
  have g0 : B0 < B1 := by omega
  have g1 : B1 < B := by omega
  replace hB0 : Hid (w.heap.size = B0) := hB0
  clear hB hB1 kA sz
  have c2_0 : w1.cell? ⟨B, 0, none⟩ = some (.slice none 0 0) := (D2.2 0).1
  have z2_0 := (D2.2 0).2
  have G2_0 : Cells (w1.setCell ⟨B, 0, none⟩ (.slice qj nj dj)) B #[.slice qj nj dj, .int .i64 0, .int .i64 0, .slice none 0 0, .int .i64 0, .slice none 0 0, .int .i64 0, .slice none 0 0, .int .i64 0, .slice none 0 0, .slice none 0 0, .slice none 0 0, .slice none 0 0] := D2.set 0 (by simp) (.slice qj nj dj)
  have k2 := (k1).setCell (p := ⟨B, 0, none⟩) (by show B0 ≤ B; omega) (.slice qj nj dj)
  have E2_2 := G2_0
  clear G2_0
  have n2 : Wn B (B + 1) w1 (w1.setCell ⟨B, 0, none⟩ (.slice qj nj dj)) := ((Wn.refl B (B + 1) w1)).set ⟨B, 0, none⟩ (.slice qj nj dj) ⟨Nat.le_refl _, Nat.lt_succ_self _⟩
  replace D0 := D0.pastW n2 (by omega)
  replace D1 := D1.pastW n2 (by omega)
  obtain ⟨w2, hw2⟩ : ∃ X, X = (w1.setCell ⟨B, 0, none⟩ (.slice qj nj dj)) := ⟨_, rfl⟩
  rw [← hw2] at k2 E2_2 n2 D0 D1
  replace hw2 : Hid ((w1.setCell ⟨B, 0, none⟩ (.slice qj nj dj)) = w2) := hw2.symm
  replace Pj := Pj.past n2 (by omega)
  have y2 := n2.size
  clear n2 D2
  have D2 := E2_2
  clear E2_2
  clear k1
  have a3 : w2.cell? ⟨B0, 1, none⟩ = some (.int .i64 cn) := (D0.2 1).1
  have c3 : w2.cell? ⟨B, 1, none⟩ = some (.int .i64 0) := (D2.2 1).1
  have z3 := (D2.2 1).2
  have G3_0 : Cells (w2.setCell ⟨B, 1, none⟩ (.int .i64 cn)) B #[.slice qj nj dj, .int .i64 cn, .int .i64 0, .slice none 0 0, .int .i64 0, .slice none 0 0, .int .i64 0, .slice none 0 0, .int .i64 0, .slice none 0 0, .slice none 0 0, .slice none 0 0, .slice none 0 0] := D2.set 1 (by simp) (.int .i64 cn)
  have k3 := (k2).setCell (p := ⟨B, 1, none⟩) (by show B0 ≤ B; omega) (.int .i64 cn)
  have E2_3 := G3_0
  clear G3_0
  have n3 : Wn B (B + 1) w2 (w2.setCell ⟨B, 1, none⟩ (.int .i64 cn)) := ((Wn.refl B (B + 1) w2)).set ⟨B, 1, none⟩ (.int .i64 cn) ⟨Nat.le_refl _, Nat.lt_succ_self _⟩
  replace D0 := D0.pastW n3 (by omega)
  replace D1 := D1.pastW n3 (by omega)
  obtain ⟨w3, hw3⟩ : ∃ X, X = (w2.setCell ⟨B, 1, none⟩ (.int .i64 cn)) := ⟨_, rfl⟩
  rw [← hw3] at k3 E2_3 n3 D0 D1
  replace hw3 : Hid ((w2.setCell ⟨B, 1, none⟩ (.int .i64 cn)) = w3) := hw3.symm
  replace Pj := Pj.past n3 (by omega)
  have y3 := n3.size
  clear n3 D2
  have D2 := E2_3
  clear E2_3
  clear k2
  have a4 : w3.cell? ⟨B0, 2, none⟩ = some (.int .i64 kn) := (D0.2 2).1
  have c4 : w3.cell? ⟨B, 2, none⟩ = some (.int .i64 0) := (D2.2 2).1
  have z4 := (D2.2 2).2
  have G4_0 : Cells (w3.setCell ⟨B, 2, none⟩ (.int .i64 kn)) B #[.slice qj nj dj, .int .i64 cn, .int .i64 kn, .slice none 0 0, .int .i64 0, .slice none 0 0, .int .i64 0, .slice none 0 0, .int .i64 0, .slice none 0 0, .slice none 0 0, .slice none 0 0, .slice none 0 0] := D2.set 2 (by simp) (.int .i64 kn)
  have k4 := (k3).setCell (p := ⟨B, 2, none⟩) (by show B0 ≤ B; omega) (.int .i64 kn)
  have E2_4 := G4_0
  clear G4_0
  have n4 : Wn B (B + 1) w3 (w3.setCell ⟨B, 2, none⟩ (.int .i64 kn)) := ((Wn.refl B (B + 1) w3)).set ⟨B, 2, none⟩ (.int .i64 kn) ⟨Nat.le_refl _, Nat.lt_succ_self _⟩
  replace D0 := D0.pastW n4 (by omega)
  replace D1 := D1.pastW n4 (by omega)
  obtain ⟨w4, hw4⟩ : ∃ X, X = (w3.setCell ⟨B, 2, none⟩ (.int .i64 kn)) := ⟨_, rfl⟩
  rw [← hw4] at k4 E2_4 n4 D0 D1
  replace hw4 : Hid ((w3.setCell ⟨B, 2, none⟩ (.int .i64 kn)) = w4) := hw4.symm
  replace Pj := Pj.past n4 (by omega)
  have y4 := n4.size
  clear n4 D2
  have D2 := E2_4
  clear E2_4
  clear k3
  have a5 : w4.cell? ⟨B0, 3, none⟩ = some (.slice pq nq cq) := (D0.2 3).1
  have a6 : w4.cell? ⟨B0, 4, none⟩ = some (.int .i64 t) := (D0.2 4).1
  have a7 : w4.cell? ⟨B0, 5, none⟩ = some (.slice pb nb cb) := (D0.2 5).1
  have a8 : w4.cell? ⟨B0, 6, none⟩ = some (.int .i64 u) := (D0.2 6).1
  go_wp2_with (first | rw [hw2.out] | rw [hw3.out] | rw [hw4.out])
  clear c2_0 z2_0 a3 c3 z3 a4 c4 z4 a5 a6 a7 a8 hw2 hw3 hw4
  have kw9 : Below w.heap.size w w4 := by have q := k4; rw [← hB0.out] at q; exact q
  refine (toPostF_own pq nq cq t pb nb cb u xq xb _ (okq.on kw9) (okb.on kw9) fq gq fb).mono ?_
  rintro z w5 ⟨qq, dq, yq, qb, db, Kq, rfl, Pq, Pb, sPost0, sPost1, hq, b9⟩
  have k9 := below_on kw9 b9
  rw [hB0.out] at k9
  replace D0 := D0.on b9
  replace D1 := D1.on b9
  replace D2 := D2.on b9
  have y9 := b9.size
  clear kw9
  replace Pj := Pj.past (Wn.of_below (lo := 0) (hi := 0) b9) (Or.inr (Nat.zero_le _))
  have Pq := Pq
  have Pb := Pb
  clear k4 b9
  have c10_0 : w5.cell? ⟨B, 3, none⟩ = some (.slice none 0 0) := (D2.2 3).1
  have z10_0 := (D2.2 3).2
  have H10_0 : Cells (w5.setCell ⟨B, 3, none⟩ (.slice qq nq dq)) B #[.slice qj nj dj, .int .i64 cn, .int .i64 kn, .slice qq nq dq, .int .i64 0, .slice none 0 0, .int .i64 0, .slice none 0 0, .int .i64 0, .slice none 0 0, .slice none 0 0, .slice none 0 0, .slice none 0 0] := D2.set 3 (by simp) (.slice qq nq dq)
  have c10_1 : (w5.setCell ⟨B, 3, none⟩ (.slice qq nq dq)).cell? ⟨B, 4, none⟩ = some (.int .i64 0) := (H10_0.2 4).1
  have z10_1 := (H10_0.2 4).2
  have H10_1 : Cells ((w5.setCell ⟨B, 3, none⟩ (.slice qq nq dq)).setCell ⟨B, 4, none⟩ (.int .i64 t)) B #[.slice qj nj dj, .int .i64 cn, .int .i64 kn, .slice qq nq dq, .int .i64 t, .slice none 0 0, .int .i64 0, .slice none 0 0, .int .i64 0, .slice none 0 0, .slice none 0 0, .slice none 0 0, .slice none 0 0] := H10_0.set 4 (by simp) (.int .i64 t)
  have c10_2 : ((w5.setCell ⟨B, 3, none⟩ (.slice qq nq dq)).setCell ⟨B, 4, none⟩ (.int .i64 t)).cell? ⟨B, 5, none⟩ = some (.slice none 0 0) := (H10_1.2 5).1
  have z10_2 := (H10_1.2 5).2
  have H10_2 : Cells (((w5.setCell ⟨B, 3, none⟩ (.slice qq nq dq)).setCell ⟨B, 4, none⟩ (.int .i64 t)).setCell ⟨B, 5, none⟩ (.slice qb nb db)) B #[.slice qj nj dj, .int .i64 cn, .int .i64 kn, .slice qq nq dq, .int .i64 t, .slice qb nb db, .int .i64 0, .slice none 0 0, .int .i64 0, .slice none 0 0, .slice none 0 0, .slice none 0 0, .slice none 0 0] := H10_1.set 5 (by simp) (.slice qb nb db)
  have c10_3 : (((w5.setCell ⟨B, 3, none⟩ (.slice qq nq dq)).setCell ⟨B, 4, none⟩ (.int .i64 t)).setCell ⟨B, 5, none⟩ (.slice qb nb db)).cell? ⟨B, 6, none⟩ = some (.int .i64 0) := (H10_2.2 6).1
  have z10_3 := (H10_2.2 6).2
  clear H10_0 H10_1 H10_2
  have G10_0 : Cells (w5.setCell ⟨B, 3, none⟩ (.slice qq nq dq)) B #[.slice qj nj dj, .int .i64 cn, .int .i64 kn, .slice qq nq dq, .int .i64 0, .slice none 0 0, .int .i64 0, .slice none 0 0, .int .i64 0, .slice none 0 0, .slice none 0 0, .slice none 0 0, .slice none 0 0] := D2.set 3 (by simp) (.slice qq nq dq)
  have G10_1 : Cells ((w5.setCell ⟨B, 3, none⟩ (.slice qq nq dq)).setCell ⟨B, 4, none⟩ (.int .i64 t)) B #[.slice qj nj dj, .int .i64 cn, .int .i64 kn, .slice qq nq dq, .int .i64 t, .slice none 0 0, .int .i64 0, .slice none 0 0, .int .i64 0, .slice none 0 0, .slice none 0 0, .slice none 0 0, .slice none 0 0] := G10_0.set 4 (by simp) (.int .i64 t)
  have G10_2 : Cells (((w5.setCell ⟨B, 3, none⟩ (.slice qq nq dq)).setCell ⟨B, 4, none⟩ (.int .i64 t)).setCell ⟨B, 5, none⟩ (.slice qb nb db)) B #[.slice qj nj dj, .int .i64 cn, .int .i64 kn, .slice qq nq dq, .int .i64 t, .slice qb nb db, .int .i64 0, .slice none 0 0, .int .i64 0, .slice none 0 0, .slice none 0 0, .slice none 0 0, .slice none 0 0] := G10_1.set 5 (by simp) (.slice qb nb db)
  have G10_3 : Cells ((((w5.setCell ⟨B, 3, none⟩ (.slice qq nq dq)).setCell ⟨B, 4, none⟩ (.int .i64 t)).setCell ⟨B, 5, none⟩ (.slice qb nb db)).setCell ⟨B, 6, none⟩ (.int .i64 u)) B #[.slice qj nj dj, .int .i64 cn, .int .i64 kn, .slice qq nq dq, .int .i64 t, .slice qb nb db, .int .i64 u, .slice none 0 0, .int .i64 0, .slice none 0 0, .slice none 0 0, .slice none 0 0, .slice none 0 0] := G10_2.set 6 (by simp) (.int .i64 u)
  have k10 := ((((k9).setCell (p := ⟨B, 3, none⟩) (by show B0 ≤ B; omega) (.slice qq nq dq)).setCell (p := ⟨B, 4, none⟩) (by show B0 ≤ B; omega) (.int .i64 t)).setCell (p := ⟨B, 5, none⟩) (by show B0 ≤ B; omega) (.slice qb nb db)).setCell (p := ⟨B, 6, none⟩) (by show B0 ≤ B; omega) (.int .i64 u)
  have E2_10 := G10_3
  clear G10_0 G10_1 G10_2 G10_3
  have n10 : Wn B (B + 1) w5 ((((w5.setCell ⟨B, 3, none⟩ (.slice qq nq dq)).setCell ⟨B, 4, none⟩ (.int .i64 t)).setCell ⟨B, 5, none⟩ (.slice qb nb db)).setCell ⟨B, 6, none⟩ (.int .i64 u)) := (((((Wn.refl B (B + 1) w5)).set ⟨B, 3, none⟩ (.slice qq nq dq) ⟨Nat.le_refl _, Nat.lt_succ_self _⟩).set ⟨B, 4, none⟩ (.int .i64 t) ⟨Nat.le_refl _, Nat.lt_succ_self _⟩).set ⟨B, 5, none⟩ (.slice qb nb db) ⟨Nat.le_refl _, Nat.lt_succ_self _⟩).set ⟨B, 6, none⟩ (.int .i64 u) ⟨Nat.le_refl _, Nat.lt_succ_self _⟩
  replace D0 := D0.pastW n10 (by omega)
  replace D1 := D1.pastW n10 (by omega)
  obtain ⟨w6, hw10⟩ : ∃ X, X = ((((w5.setCell ⟨B, 3, none⟩ (.slice qq nq dq)).setCell ⟨B, 4, none⟩ (.int .i64 t)).setCell ⟨B, 5, none⟩ (.slice qb nb db)).setCell ⟨B, 6, none⟩ (.int .i64 u)) := ⟨_, rfl⟩
  rw [← hw10] at k10 E2_10 n10 D0 D1
  replace hw10 : Hid (((((w5.setCell ⟨B, 3, none⟩ (.slice qq nq dq)).setCell ⟨B, 4, none⟩ (.int .i64 t)).setCell ⟨B, 5, none⟩ (.slice qb nb db)).setCell ⟨B, 6, none⟩ (.int .i64 u)) = w6) := hw10.symm
  replace Pj := Pj.past n10 (by omega)
  replace Pq := Pq.past n10 (by omega)
  replace Pb := Pb.past n10 (by omega)
  have y10 := n10.size
  clear n10 D2
  have D2 := E2_10
  clear E2_10
  clear k9
  have a11 : w6.cell? ⟨B0, 7, none⟩ = some (.slice ps ns cs) := (D0.2 7).1
  have a12 : w6.cell? ⟨B0, 8, none⟩ = some (.int .i64 e) := (D0.2 8).1
  have a13 : w6.cell? ⟨B0, 9, none⟩ = some (.slice pv nv cv) := (D0.2 9).1
  have a14 : w6.cell? ⟨B0, 10, none⟩ = some (.slice pg ng cg) := (D0.2 10).1
  go_wp2_with (first | rw [hw10.out])
  clear c10_0 z10_0 c10_1 z10_1 c10_2 z10_2 c10_3 z10_3 a11 a12 a13 a14 hw10
  have kw15 : Below w.heap.size w w6 := by have q := k10; rw [← hB0.out] at q; exact q
  refine (toReaderF_own ps ns cs e pv nv cv pg ng cg xs xv xg _ (oks.on kw15) (okv.on kw15) (okg.on kw15) fs fv gv fg gg).mono ?_
  rintro z w7 ⟨qs, ds, qv, dv, yv, qg, dg, yg, Ks, Kv, rfl, Ps, Pv, Pg, sReader0, sReader1, sReader2, hv, hg, b15⟩
  have k15 := below_on kw15 b15
  rw [hB0.out] at k15
  replace D0 := D0.on b15
  replace D1 := D1.on b15
  replace D2 := D2.on b15
  have y15 := b15.size
  clear kw15
  replace Pj := Pj.past (Wn.of_below (lo := 0) (hi := 0) b15) (Or.inr (Nat.zero_le _))
  replace Pq := Pq.past (Wn.of_below (lo := 0) (hi := 0) b15) (Or.inr (Nat.zero_le _))
  replace Pb := Pb.past (Wn.of_below (lo := 0) (hi := 0) b15) (Or.inr (Nat.zero_le _))
  have Ps := Ps
  have Pv := Pv
  have Pg := Pg
  clear k10 b15
  have c16_0 : w7.cell? ⟨B, 7, none⟩ = some (.slice none 0 0) := (D2.2 7).1
  have z16_0 := (D2.2 7).2
  have H16_0 : Cells (w7.setCell ⟨B, 7, none⟩ (.slice qs ns ds)) B #[.slice qj nj dj, .int .i64 cn, .int .i64 kn, .slice qq nq dq, .int .i64 t, .slice qb nb db, .int .i64 u, .slice qs ns ds, .int .i64 0, .slice none 0 0, .slice none 0 0, .slice none 0 0, .slice none 0 0] := D2.set 7 (by simp) (.slice qs ns ds)
  have c16_1 : (w7.setCell ⟨B, 7, none⟩ (.slice qs ns ds)).cell? ⟨B, 8, none⟩ = some (.int .i64 0) := (H16_0.2 8).1
  have z16_1 := (H16_0.2 8).2
  have H16_1 : Cells ((w7.setCell ⟨B, 7, none⟩ (.slice qs ns ds)).setCell ⟨B, 8, none⟩ (.int .i64 e)) B #[.slice qj nj dj, .int .i64 cn, .int .i64 kn, .slice qq nq dq, .int .i64 t, .slice qb nb db, .int .i64 u, .slice qs ns ds, .int .i64 e, .slice none 0 0, .slice none 0 0, .slice none 0 0, .slice none 0 0] := H16_0.set 8 (by simp) (.int .i64 e)
  have c16_2 : ((w7.setCell ⟨B, 7, none⟩ (.slice qs ns ds)).setCell ⟨B, 8, none⟩ (.int .i64 e)).cell? ⟨B, 9, none⟩ = some (.slice none 0 0) := (H16_1.2 9).1
  have z16_2 := (H16_1.2 9).2
  have H16_2 : Cells (((w7.setCell ⟨B, 7, none⟩ (.slice qs ns ds)).setCell ⟨B, 8, none⟩ (.int .i64 e)).setCell ⟨B, 9, none⟩ (.slice qv nv dv)) B #[.slice qj nj dj, .int .i64 cn, .int .i64 kn, .slice qq nq dq, .int .i64 t, .slice qb nb db, .int .i64 u, .slice qs ns ds, .int .i64 e, .slice qv nv dv, .slice none 0 0, .slice none 0 0, .slice none 0 0] := H16_1.set 9 (by simp) (.slice qv nv dv)
  have c16_3 : (((w7.setCell ⟨B, 7, none⟩ (.slice qs ns ds)).setCell ⟨B, 8, none⟩ (.int .i64 e)).setCell ⟨B, 9, none⟩ (.slice qv nv dv)).cell? ⟨B, 10, none⟩ = some (.slice none 0 0) := (H16_2.2 10).1
  have z16_3 := (H16_2.2 10).2
  clear H16_0 H16_1 H16_2
  have G16_0 : Cells (w7.setCell ⟨B, 7, none⟩ (.slice qs ns ds)) B #[.slice qj nj dj, .int .i64 cn, .int .i64 kn, .slice qq nq dq, .int .i64 t, .slice qb nb db, .int .i64 u, .slice qs ns ds, .int .i64 0, .slice none 0 0, .slice none 0 0, .slice none 0 0, .slice none 0 0] := D2.set 7 (by simp) (.slice qs ns ds)
  have G16_1 : Cells ((w7.setCell ⟨B, 7, none⟩ (.slice qs ns ds)).setCell ⟨B, 8, none⟩ (.int .i64 e)) B #[.slice qj nj dj, .int .i64 cn, .int .i64 kn, .slice qq nq dq, .int .i64 t, .slice qb nb db, .int .i64 u, .slice qs ns ds, .int .i64 e, .slice none 0 0, .slice none 0 0, .slice none 0 0, .slice none 0 0] := G16_0.set 8 (by simp) (.int .i64 e)
  have G16_2 : Cells (((w7.setCell ⟨B, 7, none⟩ (.slice qs ns ds)).setCell ⟨B, 8, none⟩ (.int .i64 e)).setCell ⟨B, 9, none⟩ (.slice qv nv dv)) B #[.slice qj nj dj, .int .i64 cn, .int .i64 kn, .slice qq nq dq, .int .i64 t, .slice qb nb db, .int .i64 u, .slice qs ns ds, .int .i64 e, .slice qv nv dv, .slice none 0 0, .slice none 0 0, .slice none 0 0] := G16_1.set 9 (by simp) (.slice qv nv dv)
  have G16_3 : Cells ((((w7.setCell ⟨B, 7, none⟩ (.slice qs ns ds)).setCell ⟨B, 8, none⟩ (.int .i64 e)).setCell ⟨B, 9, none⟩ (.slice qv nv dv)).setCell ⟨B, 10, none⟩ (.slice qg ng dg)) B #[.slice qj nj dj, .int .i64 cn, .int .i64 kn, .slice qq nq dq, .int .i64 t, .slice qb nb db, .int .i64 u, .slice qs ns ds, .int .i64 e, .slice qv nv dv, .slice qg ng dg, .slice none 0 0, .slice none 0 0] := G16_2.set 10 (by simp) (.slice qg ng dg)
  have k16 := ((((k15).setCell (p := ⟨B, 7, none⟩) (by show B0 ≤ B; omega) (.slice qs ns ds)).setCell (p := ⟨B, 8, none⟩) (by show B0 ≤ B; omega) (.int .i64 e)).setCell (p := ⟨B, 9, none⟩) (by show B0 ≤ B; omega) (.slice qv nv dv)).setCell (p := ⟨B, 10, none⟩) (by show B0 ≤ B; omega) (.slice qg ng dg)
  have E2_16 := G16_3
  clear G16_0 G16_1 G16_2 G16_3
  have n16 : Wn B (B + 1) w7 ((((w7.setCell ⟨B, 7, none⟩ (.slice qs ns ds)).setCell ⟨B, 8, none⟩ (.int .i64 e)).setCell ⟨B, 9, none⟩ (.slice qv nv dv)).setCell ⟨B, 10, none⟩ (.slice qg ng dg)) := (((((Wn.refl B (B + 1) w7)).set ⟨B, 7, none⟩ (.slice qs ns ds) ⟨Nat.le_refl _, Nat.lt_succ_self _⟩).set ⟨B, 8, none⟩ (.int .i64 e) ⟨Nat.le_refl _, Nat.lt_succ_self _⟩).set ⟨B, 9, none⟩ (.slice qv nv dv) ⟨Nat.le_refl _, Nat.lt_succ_self _⟩).set ⟨B, 10, none⟩ (.slice qg ng dg) ⟨Nat.le_refl _, Nat.lt_succ_self _⟩
  replace D0 := D0.pastW n16 (by omega)
  replace D1 := D1.pastW n16 (by omega)
  obtain ⟨w8, hw16⟩ : ∃ X, X = ((((w7.setCell ⟨B, 7, none⟩ (.slice qs ns ds)).setCell ⟨B, 8, none⟩ (.int .i64 e)).setCell ⟨B, 9, none⟩ (.slice qv nv dv)).setCell ⟨B, 10, none⟩ (.slice qg ng dg)) := ⟨_, rfl⟩
  rw [← hw16] at k16 E2_16 n16 D0 D1
  replace hw16 : Hid (((((w7.setCell ⟨B, 7, none⟩ (.slice qs ns ds)).setCell ⟨B, 8, none⟩ (.int .i64 e)).setCell ⟨B, 9, none⟩ (.slice qv nv dv)).setCell ⟨B, 10, none⟩ (.slice qg ng dg)) = w8) := hw16.symm
  replace Pj := Pj.past n16 (by omega)
  replace Pq := Pq.past n16 (by omega)
  replace Pb := Pb.past n16 (by omega)
  replace Ps := Ps.past n16 (by omega)
  replace Pv := Pv.past n16 (by omega)
  replace Pg := Pg.past n16 (by omega)
  have y16 := n16.size
  clear n16 D2
  have D2 := E2_16
  clear E2_16
  clear k15
  have a17 : w8.cell? ⟨B0, 11, none⟩ = some (.slice pw nw cw) := (D0.2 11).1
  go_wp2_with (first | rw [hw16.out])
  clear c16_0 z16_0 c16_1 z16_1 c16_2 z16_2 c16_3 z16_3 a17 hw16
  have kw18 : Below w.heap.size w w8 := by have q := k16; rw [← hB0.out] at q; exact q
  refine (toWireSF_own pw nw cw xw _ fw (okw.on kw18) gw).mono ?_
  rintro z w9 ⟨qw, dw, yw, rfl, Rw, hw, b18⟩
  have k18 := below_on kw18 b18
  rw [hB0.out] at k18
  replace D0 := D0.on b18
  replace D1 := D1.on b18
  replace D2 := D2.on b18
  have y18 := b18.size
  clear kw18
  replace Pj := Pj.past (Wn.of_below (lo := 0) (hi := 0) b18) (Or.inr (Nat.zero_le _))
  replace Pq := Pq.past (Wn.of_below (lo := 0) (hi := 0) b18) (Or.inr (Nat.zero_le _))
  replace Pb := Pb.past (Wn.of_below (lo := 0) (hi := 0) b18) (Or.inr (Nat.zero_le _))
  replace Ps := Ps.past (Wn.of_below (lo := 0) (hi := 0) b18) (Or.inr (Nat.zero_le _))
  replace Pv := Pv.past (Wn.of_below (lo := 0) (hi := 0) b18) (Or.inr (Nat.zero_le _))
  replace Pg := Pg.past (Wn.of_below (lo := 0) (hi := 0) b18) (Or.inr (Nat.zero_le _))
  have Pw := Rw
  clear k16 b18
  have c19_0 : w9.cell? ⟨B, 11, none⟩ = some (.slice none 0 0) := (D2.2 11).1
  have z19_0 := (D2.2 11).2
  have G19_0 : Cells (w9.setCell ⟨B, 11, none⟩ (.slice qw nw dw)) B #[.slice qj nj dj, .int .i64 cn, .int .i64 kn, .slice qq nq dq, .int .i64 t, .slice qb nb db, .int .i64 u, .slice qs ns ds, .int .i64 e, .slice qv nv dv, .slice qg ng dg, .slice qw nw dw, .slice none 0 0] := D2.set 11 (by simp) (.slice qw nw dw)
  have k19 := (k18).setCell (p := ⟨B, 11, none⟩) (by show B0 ≤ B; omega) (.slice qw nw dw)
  have E2_19 := G19_0
  clear G19_0
  have n19 : Wn B (B + 1) w9 (w9.setCell ⟨B, 11, none⟩ (.slice qw nw dw)) := ((Wn.refl B (B + 1) w9)).set ⟨B, 11, none⟩ (.slice qw nw dw) ⟨Nat.le_refl _, Nat.lt_succ_self _⟩
  replace D0 := D0.pastW n19 (by omega)
  replace D1 := D1.pastW n19 (by omega)
  obtain ⟨w10, hw19⟩ : ∃ X, X = (w9.setCell ⟨B, 11, none⟩ (.slice qw nw dw)) := ⟨_, rfl⟩
  rw [← hw19] at k19 E2_19 n19 D0 D1
  replace hw19 : Hid ((w9.setCell ⟨B, 11, none⟩ (.slice qw nw dw)) = w10) := hw19.symm
  replace Pj := Pj.past n19 (by omega)
  replace Pq := Pq.past n19 (by omega)
  replace Pb := Pb.past n19 (by omega)
  replace Ps := Ps.past n19 (by omega)
  replace Pv := Pv.past n19 (by omega)
  replace Pg := Pg.past n19 (by omega)
  replace Pw := Pw.past n19 (by omega)
  have y19 := n19.size
  clear n19 D2
  have D2 := E2_19
  clear E2_19
  clear k18
  have a20 : w10.cell? ⟨B0, 12, none⟩ = some (.slice pz nz cz) := (D0.2 12).1
  go_wp2_with (first | rw [hw19.out])
  clear c19_0 z19_0 a20 hw19
  have kw21 : Below w.heap.size w w10 := by have q := k19; rw [← hB0.out] at q; exact q
  refine (toSentSF_own pz nz cz xz _ fz (okz.on kw21) gz).mono ?_
  rintro z w11 ⟨qz, dz, yz, rfl, Rz, hz, b21⟩
  have k21 := below_on kw21 b21
  rw [hB0.out] at k21
  replace D0 := D0.on b21
  replace D1 := D1.on b21
  replace D2 := D2.on b21
  have y21 := b21.size
  clear kw21
  replace Pj := Pj.past (Wn.of_below (lo := 0) (hi := 0) b21) (Or.inr (Nat.zero_le _))
  replace Pq := Pq.past (Wn.of_below (lo := 0) (hi := 0) b21) (Or.inr (Nat.zero_le _))
  replace Pb := Pb.past (Wn.of_below (lo := 0) (hi := 0) b21) (Or.inr (Nat.zero_le _))
  replace Ps := Ps.past (Wn.of_below (lo := 0) (hi := 0) b21) (Or.inr (Nat.zero_le _))
  replace Pv := Pv.past (Wn.of_below (lo := 0) (hi := 0) b21) (Or.inr (Nat.zero_le _))
  replace Pg := Pg.past (Wn.of_below (lo := 0) (hi := 0) b21) (Or.inr (Nat.zero_le _))
  replace Pw := Pw.past (Wn.of_below (lo := 0) (hi := 0) b21) (Or.inr (Nat.zero_le _))
  have Pz := Rz
  clear k19 b21
  have c22_0 : w11.cell? ⟨B, 12, none⟩ = some (.slice none 0 0) := (D2.2 12).1
  have z22_0 := (D2.2 12).2
  have G22_0 : Cells (w11.setCell ⟨B, 12, none⟩ (.slice qz nz dz)) B #[.slice qj nj dj, .int .i64 cn, .int .i64 kn, .slice qq nq dq, .int .i64 t, .slice qb nb db, .int .i64 u, .slice qs ns ds, .int .i64 e, .slice qv nv dv, .slice qg ng dg, .slice qw nw dw, .slice qz nz dz] := D2.set 12 (by simp) (.slice qz nz dz)
  have k22 := (k21).setCell (p := ⟨B, 12, none⟩) (by show B0 ≤ B; omega) (.slice qz nz dz)
  have E2_22 := G22_0
  clear G22_0
  have n22 : Wn B (B + 1) w11 (w11.setCell ⟨B, 12, none⟩ (.slice qz nz dz)) := ((Wn.refl B (B + 1) w11)).set ⟨B, 12, none⟩ (.slice qz nz dz) ⟨Nat.le_refl _, Nat.lt_succ_self _⟩
  replace D0 := D0.pastW n22 (by omega)
  replace D1 := D1.pastW n22 (by omega)
  obtain ⟨w12, hw22⟩ : ∃ X, X = (w11.setCell ⟨B, 12, none⟩ (.slice qz nz dz)) := ⟨_, rfl⟩
  rw [← hw22] at k22 E2_22 n22 D0 D1
  replace hw22 : Hid ((w11.setCell ⟨B, 12, none⟩ (.slice qz nz dz)) = w12) := hw22.symm
  replace Pj := Pj.past n22 (by omega)
  replace Pq := Pq.past n22 (by omega)
  replace Pb := Pb.past n22 (by omega)
  replace Ps := Ps.past n22 (by omega)
  replace Pv := Pv.past n22 (by omega)
  replace Pg := Pg.past n22 (by omega)
  replace Pw := Pw.past n22 (by omega)
  replace Pz := Pz.past n22 (by omega)
  have y22 := n22.size
  clear n22 D2
  have D2 := E2_22
  clear E2_22
  clear k21
  have m0 : w12.cell? ⟨B, 0, none⟩ = some (.slice qj nj dj) := (D2.2 0).1
  have q0 : w12.cell? ⟨B1, 0, none⟩ = some (.slice none 0 0) := (D1.2 0).1
  have x0 := (D1.2 0).2
  have H23_0 : Cells (w12.setCell ⟨B1, 0, none⟩ (.slice qj nj dj)) B1 #[.slice qj nj dj, .int .i64 0, .int .i64 0, .slice none 0 0, .int .i64 0, .slice none 0 0, .int .i64 0, .slice none 0 0, .int .i64 0, .slice none 0 0, .slice none 0 0, .slice none 0 0, .slice none 0 0] := D1.set 0 (by simp) (.slice qj nj dj)
  have m1 : w12.cell? ⟨B, 1, none⟩ = some (.int .i64 cn) := (D2.2 1).1
  have q1 : (w12.setCell ⟨B1, 0, none⟩ (.slice qj nj dj)).cell? ⟨B1, 1, none⟩ = some (.int .i64 0) := (H23_0.2 1).1
  have x1 := (H23_0.2 1).2
  have H23_1 : Cells ((w12.setCell ⟨B1, 0, none⟩ (.slice qj nj dj)).setCell ⟨B1, 1, none⟩ (.int .i64 cn)) B1 #[.slice qj nj dj, .int .i64 cn, .int .i64 0, .slice none 0 0, .int .i64 0, .slice none 0 0, .int .i64 0, .slice none 0 0, .int .i64 0, .slice none 0 0, .slice none 0 0, .slice none 0 0, .slice none 0 0] := H23_0.set 1 (by simp) (.int .i64 cn)
  have m2 : w12.cell? ⟨B, 2, none⟩ = some (.int .i64 kn) := (D2.2 2).1
  have q2 : ((w12.setCell ⟨B1, 0, none⟩ (.slice qj nj dj)).setCell ⟨B1, 1, none⟩ (.int .i64 cn)).cell? ⟨B1, 2, none⟩ = some (.int .i64 0) := (H23_1.2 2).1
  have x2 := (H23_1.2 2).2
  have H23_2 : Cells (((w12.setCell ⟨B1, 0, none⟩ (.slice qj nj dj)).setCell ⟨B1, 1, none⟩ (.int .i64 cn)).setCell ⟨B1, 2, none⟩ (.int .i64 kn)) B1 #[.slice qj nj dj, .int .i64 cn, .int .i64 kn, .slice none 0 0, .int .i64 0, .slice none 0 0, .int .i64 0, .slice none 0 0, .int .i64 0, .slice none 0 0, .slice none 0 0, .slice none 0 0, .slice none 0 0] := H23_1.set 2 (by simp) (.int .i64 kn)
  have m3 : w12.cell? ⟨B, 3, none⟩ = some (.slice qq nq dq) := (D2.2 3).1
  have q3 : (((w12.setCell ⟨B1, 0, none⟩ (.slice qj nj dj)).setCell ⟨B1, 1, none⟩ (.int .i64 cn)).setCell ⟨B1, 2, none⟩ (.int .i64 kn)).cell? ⟨B1, 3, none⟩ = some (.slice none 0 0) := (H23_2.2 3).1
  have x3 := (H23_2.2 3).2
  have H23_3 : Cells ((((w12.setCell ⟨B1, 0, none⟩ (.slice qj nj dj)).setCell ⟨B1, 1, none⟩ (.int .i64 cn)).setCell ⟨B1, 2, none⟩ (.int .i64 kn)).setCell ⟨B1, 3, none⟩ (.slice qq nq dq)) B1 #[.slice qj nj dj, .int .i64 cn, .int .i64 kn, .slice qq nq dq, .int .i64 0, .slice none 0 0, .int .i64 0, .slice none 0 0, .int .i64 0, .slice none 0 0, .slice none 0 0, .slice none 0 0, .slice none 0 0] := H23_2.set 3 (by simp) (.slice qq nq dq)
  have m4 : w12.cell? ⟨B, 4, none⟩ = some (.int .i64 t) := (D2.2 4).1
  have q4 : ((((w12.setCell ⟨B1, 0, none⟩ (.slice qj nj dj)).setCell ⟨B1, 1, none⟩ (.int .i64 cn)).setCell ⟨B1, 2, none⟩ (.int .i64 kn)).setCell ⟨B1, 3, none⟩ (.slice qq nq dq)).cell? ⟨B1, 4, none⟩ = some (.int .i64 0) := (H23_3.2 4).1
  have x4 := (H23_3.2 4).2
  have H23_4 : Cells (((((w12.setCell ⟨B1, 0, none⟩ (.slice qj nj dj)).setCell ⟨B1, 1, none⟩ (.int .i64 cn)).setCell ⟨B1, 2, none⟩ (.int .i64 kn)).setCell ⟨B1, 3, none⟩ (.slice qq nq dq)).setCell ⟨B1, 4, none⟩ (.int .i64 t)) B1 #[.slice qj nj dj, .int .i64 cn, .int .i64 kn, .slice qq nq dq, .int .i64 t, .slice none 0 0, .int .i64 0, .slice none 0 0, .int .i64 0, .slice none 0 0, .slice none 0 0, .slice none 0 0, .slice none 0 0] := H23_3.set 4 (by simp) (.int .i64 t)
  have m5 : w12.cell? ⟨B, 5, none⟩ = some (.slice qb nb db) := (D2.2 5).1
  have q5 : (((((w12.setCell ⟨B1, 0, none⟩ (.slice qj nj dj)).setCell ⟨B1, 1, none⟩ (.int .i64 cn)).setCell ⟨B1, 2, none⟩ (.int .i64 kn)).setCell ⟨B1, 3, none⟩ (.slice qq nq dq)).setCell ⟨B1, 4, none⟩ (.int .i64 t)).cell? ⟨B1, 5, none⟩ = some (.slice none 0 0) := (H23_4.2 5).1
  have x5 := (H23_4.2 5).2
  have H23_5 : Cells ((((((w12.setCell ⟨B1, 0, none⟩ (.slice qj nj dj)).setCell ⟨B1, 1, none⟩ (.int .i64 cn)).setCell ⟨B1, 2, none⟩ (.int .i64 kn)).setCell ⟨B1, 3, none⟩ (.slice qq nq dq)).setCell ⟨B1, 4, none⟩ (.int .i64 t)).setCell ⟨B1, 5, none⟩ (.slice qb nb db)) B1 #[.slice qj nj dj, .int .i64 cn, .int .i64 kn, .slice qq nq dq, .int .i64 t, .slice qb nb db, .int .i64 0, .slice none 0 0, .int .i64 0, .slice none 0 0, .slice none 0 0, .slice none 0 0, .slice none 0 0] := H23_4.set 5 (by simp) (.slice qb nb db)
  have m6 : w12.cell? ⟨B, 6, none⟩ = some (.int .i64 u) := (D2.2 6).1
  have q6 : ((((((w12.setCell ⟨B1, 0, none⟩ (.slice qj nj dj)).setCell ⟨B1, 1, none⟩ (.int .i64 cn)).setCell ⟨B1, 2, none⟩ (.int .i64 kn)).setCell ⟨B1, 3, none⟩ (.slice qq nq dq)).setCell ⟨B1, 4, none⟩ (.int .i64 t)).setCell ⟨B1, 5, none⟩ (.slice qb nb db)).cell? ⟨B1, 6, none⟩ = some (.int .i64 0) := (H23_5.2 6).1
  have x6 := (H23_5.2 6).2
  have H23_6 : Cells (((((((w12.setCell ⟨B1, 0, none⟩ (.slice qj nj dj)).setCell ⟨B1, 1, none⟩ (.int .i64 cn)).setCell ⟨B1, 2, none⟩ (.int .i64 kn)).setCell ⟨B1, 3, none⟩ (.slice qq nq dq)).setCell ⟨B1, 4, none⟩ (.int .i64 t)).setCell ⟨B1, 5, none⟩ (.slice qb nb db)).setCell ⟨B1, 6, none⟩ (.int .i64 u)) B1 #[.slice qj nj dj, .int .i64 cn, .int .i64 kn, .slice qq nq dq, .int .i64 t, .slice qb nb db, .int .i64 u, .slice none 0 0, .int .i64 0, .slice none 0 0, .slice none 0 0, .slice none 0 0, .slice none 0 0] := H23_5.set 6 (by simp) (.int .i64 u)
  have m7 : w12.cell? ⟨B, 7, none⟩ = some (.slice qs ns ds) := (D2.2 7).1
  have q7 : (((((((w12.setCell ⟨B1, 0, none⟩ (.slice qj nj dj)).setCell ⟨B1, 1, none⟩ (.int .i64 cn)).setCell ⟨B1, 2, none⟩ (.int .i64 kn)).setCell ⟨B1, 3, none⟩ (.slice qq nq dq)).setCell ⟨B1, 4, none⟩ (.int .i64 t)).setCell ⟨B1, 5, none⟩ (.slice qb nb db)).setCell ⟨B1, 6, none⟩ (.int .i64 u)).cell? ⟨B1, 7, none⟩ = some (.slice none 0 0) := (H23_6.2 7).1
  have x7 := (H23_6.2 7).2
  have H23_7 : Cells ((((((((w12.setCell ⟨B1, 0, none⟩ (.slice qj nj dj)).setCell ⟨B1, 1, none⟩ (.int .i64 cn)).setCell ⟨B1, 2, none⟩ (.int .i64 kn)).setCell ⟨B1, 3, none⟩ (.slice qq nq dq)).setCell ⟨B1, 4, none⟩ (.int .i64 t)).setCell ⟨B1, 5, none⟩ (.slice qb nb db)).setCell ⟨B1, 6, none⟩ (.int .i64 u)).setCell ⟨B1, 7, none⟩ (.slice qs ns ds)) B1 #[.slice qj nj dj, .int .i64 cn, .int .i64 kn, .slice qq nq dq, .int .i64 t, .slice qb nb db, .int .i64 u, .slice qs ns ds, .int .i64 0, .slice none 0 0, .slice none 0 0, .slice none 0 0, .slice none 0 0] := H23_6.set 7 (by simp) (.slice qs ns ds)
  have m8 : w12.cell? ⟨B, 8, none⟩ = some (.int .i64 e) := (D2.2 8).1
  have q8 : ((((((((w12.setCell ⟨B1, 0, none⟩ (.slice qj nj dj)).setCell ⟨B1, 1, none⟩ (.int .i64 cn)).setCell ⟨B1, 2, none⟩ (.int .i64 kn)).setCell ⟨B1, 3, none⟩ (.slice qq nq dq)).setCell ⟨B1, 4, none⟩ (.int .i64 t)).setCell ⟨B1, 5, none⟩ (.slice qb nb db)).setCell ⟨B1, 6, none⟩ (.int .i64 u)).setCell ⟨B1, 7, none⟩ (.slice qs ns ds)).cell? ⟨B1, 8, none⟩ = some (.int .i64 0) := (H23_7.2 8).1
  have x8 := (H23_7.2 8).2
  have H23_8 : Cells (((((((((w12.setCell ⟨B1, 0, none⟩ (.slice qj nj dj)).setCell ⟨B1, 1, none⟩ (.int .i64 cn)).setCell ⟨B1, 2, none⟩ (.int .i64 kn)).setCell ⟨B1, 3, none⟩ (.slice qq nq dq)).setCell ⟨B1, 4, none⟩ (.int .i64 t)).setCell ⟨B1, 5, none⟩ (.slice qb nb db)).setCell ⟨B1, 6, none⟩ (.int .i64 u)).setCell ⟨B1, 7, none⟩ (.slice qs ns ds)).setCell ⟨B1, 8, none⟩ (.int .i64 e)) B1 #[.slice qj nj dj, .int .i64 cn, .int .i64 kn, .slice qq nq dq, .int .i64 t, .slice qb nb db, .int .i64 u, .slice qs ns ds, .int .i64 e, .slice none 0 0, .slice none 0 0, .slice none 0 0, .slice none 0 0] := H23_7.set 8 (by simp) (.int .i64 e)
  have m9 : w12.cell? ⟨B, 9, none⟩ = some (.slice qv nv dv) := (D2.2 9).1
  have q9 : (((((((((w12.setCell ⟨B1, 0, none⟩ (.slice qj nj dj)).setCell ⟨B1, 1, none⟩ (.int .i64 cn)).setCell ⟨B1, 2, none⟩ (.int .i64 kn)).setCell ⟨B1, 3, none⟩ (.slice qq nq dq)).setCell ⟨B1, 4, none⟩ (.int .i64 t)).setCell ⟨B1, 5, none⟩ (.slice qb nb db)).setCell ⟨B1, 6, none⟩ (.int .i64 u)).setCell ⟨B1, 7, none⟩ (.slice qs ns ds)).setCell ⟨B1, 8, none⟩ (.int .i64 e)).cell? ⟨B1, 9, none⟩ = some (.slice none 0 0) := (H23_8.2 9).1
  have x9 := (H23_8.2 9).2
  have H23_9 : Cells ((((((((((w12.setCell ⟨B1, 0, none⟩ (.slice qj nj dj)).setCell ⟨B1, 1, none⟩ (.int .i64 cn)).setCell ⟨B1, 2, none⟩ (.int .i64 kn)).setCell ⟨B1, 3, none⟩ (.slice qq nq dq)).setCell ⟨B1, 4, none⟩ (.int .i64 t)).setCell ⟨B1, 5, none⟩ (.slice qb nb db)).setCell ⟨B1, 6, none⟩ (.int .i64 u)).setCell ⟨B1, 7, none⟩ (.slice qs ns ds)).setCell ⟨B1, 8, none⟩ (.int .i64 e)).setCell ⟨B1, 9, none⟩ (.slice qv nv dv)) B1 #[.slice qj nj dj, .int .i64 cn, .int .i64 kn, .slice qq nq dq, .int .i64 t, .slice qb nb db, .int .i64 u, .slice qs ns ds, .int .i64 e, .slice qv nv dv, .slice none 0 0, .slice none 0 0, .slice none 0 0] := H23_8.set 9 (by simp) (.slice qv nv dv)
  have m10 : w12.cell? ⟨B, 10, none⟩ = some (.slice qg ng dg) := (D2.2 10).1
  have q10 : ((((((((((w12.setCell ⟨B1, 0, none⟩ (.slice qj nj dj)).setCell ⟨B1, 1, none⟩ (.int .i64 cn)).setCell ⟨B1, 2, none⟩ (.int .i64 kn)).setCell ⟨B1, 3, none⟩ (.slice qq nq dq)).setCell ⟨B1, 4, none⟩ (.int .i64 t)).setCell ⟨B1, 5, none⟩ (.slice qb nb db)).setCell ⟨B1, 6, none⟩ (.int .i64 u)).setCell ⟨B1, 7, none⟩ (.slice qs ns ds)).setCell ⟨B1, 8, none⟩ (.int .i64 e)).setCell ⟨B1, 9, none⟩ (.slice qv nv dv)).cell? ⟨B1, 10, none⟩ = some (.slice none 0 0) := (H23_9.2 10).1
  have x10 := (H23_9.2 10).2
  have H23_10 : Cells (((((((((((w12.setCell ⟨B1, 0, none⟩ (.slice qj nj dj)).setCell ⟨B1, 1, none⟩ (.int .i64 cn)).setCell ⟨B1, 2, none⟩ (.int .i64 kn)).setCell ⟨B1, 3, none⟩ (.slice qq nq dq)).setCell ⟨B1, 4, none⟩ (.int .i64 t)).setCell ⟨B1, 5, none⟩ (.slice qb nb db)).setCell ⟨B1, 6, none⟩ (.int .i64 u)).setCell ⟨B1, 7, none⟩ (.slice qs ns ds)).setCell ⟨B1, 8, none⟩ (.int .i64 e)).setCell ⟨B1, 9, none⟩ (.slice qv nv dv)).setCell ⟨B1, 10, none⟩ (.slice qg ng dg)) B1 #[.slice qj nj dj, .int .i64 cn, .int .i64 kn, .slice qq nq dq, .int .i64 t, .slice qb nb db, .int .i64 u, .slice qs ns ds, .int .i64 e, .slice qv nv dv, .slice qg ng dg, .slice none 0 0, .slice none 0 0] := H23_9.set 10 (by simp) (.slice qg ng dg)
  have m11 : w12.cell? ⟨B, 11, none⟩ = some (.slice qw nw dw) := (D2.2 11).1
  have q11 : (((((((((((w12.setCell ⟨B1, 0, none⟩ (.slice qj nj dj)).setCell ⟨B1, 1, none⟩ (.int .i64 cn)).setCell ⟨B1, 2, none⟩ (.int .i64 kn)).setCell ⟨B1, 3, none⟩ (.slice qq nq dq)).setCell ⟨B1, 4, none⟩ (.int .i64 t)).setCell ⟨B1, 5, none⟩ (.slice qb nb db)).setCell ⟨B1, 6, none⟩ (.int .i64 u)).setCell ⟨B1, 7, none⟩ (.slice qs ns ds)).setCell ⟨B1, 8, none⟩ (.int .i64 e)).setCell ⟨B1, 9, none⟩ (.slice qv nv dv)).setCell ⟨B1, 10, none⟩ (.slice qg ng dg)).cell? ⟨B1, 11, none⟩ = some (.slice none 0 0) := (H23_10.2 11).1
  have x11 := (H23_10.2 11).2
  have H23_11 : Cells ((((((((((((w12.setCell ⟨B1, 0, none⟩ (.slice qj nj dj)).setCell ⟨B1, 1, none⟩ (.int .i64 cn)).setCell ⟨B1, 2, none⟩ (.int .i64 kn)).setCell ⟨B1, 3, none⟩ (.slice qq nq dq)).setCell ⟨B1, 4, none⟩ (.int .i64 t)).setCell ⟨B1, 5, none⟩ (.slice qb nb db)).setCell ⟨B1, 6, none⟩ (.int .i64 u)).setCell ⟨B1, 7, none⟩ (.slice qs ns ds)).setCell ⟨B1, 8, none⟩ (.int .i64 e)).setCell ⟨B1, 9, none⟩ (.slice qv nv dv)).setCell ⟨B1, 10, none⟩ (.slice qg ng dg)).setCell ⟨B1, 11, none⟩ (.slice qw nw dw)) B1 #[.slice qj nj dj, .int .i64 cn, .int .i64 kn, .slice qq nq dq, .int .i64 t, .slice qb nb db, .int .i64 u, .slice qs ns ds, .int .i64 e, .slice qv nv dv, .slice qg ng dg, .slice qw nw dw, .slice none 0 0] := H23_10.set 11 (by simp) (.slice qw nw dw)
  have m12 : w12.cell? ⟨B, 12, none⟩ = some (.slice qz nz dz) := (D2.2 12).1
  have q12 : ((((((((((((w12.setCell ⟨B1, 0, none⟩ (.slice qj nj dj)).setCell ⟨B1, 1, none⟩ (.int .i64 cn)).setCell ⟨B1, 2, none⟩ (.int .i64 kn)).setCell ⟨B1, 3, none⟩ (.slice qq nq dq)).setCell ⟨B1, 4, none⟩ (.int .i64 t)).setCell ⟨B1, 5, none⟩ (.slice qb nb db)).setCell ⟨B1, 6, none⟩ (.int .i64 u)).setCell ⟨B1, 7, none⟩ (.slice qs ns ds)).setCell ⟨B1, 8, none⟩ (.int .i64 e)).setCell ⟨B1, 9, none⟩ (.slice qv nv dv)).setCell ⟨B1, 10, none⟩ (.slice qg ng dg)).setCell ⟨B1, 11, none⟩ (.slice qw nw dw)).cell? ⟨B1, 12, none⟩ = some (.slice none 0 0) := (H23_11.2 12).1
  have x12 := (H23_11.2 12).2
  clear H23_0 H23_1 H23_2 H23_3 H23_4 H23_5 H23_6 H23_7 H23_8 H23_9 H23_10 H23_11
  have G23_0 : Cells (w12.setCell ⟨B1, 0, none⟩ (.slice qj nj dj)) B1 #[.slice qj nj dj, .int .i64 0, .int .i64 0, .slice none 0 0, .int .i64 0, .slice none 0 0, .int .i64 0, .slice none 0 0, .int .i64 0, .slice none 0 0, .slice none 0 0, .slice none 0 0, .slice none 0 0] := D1.set 0 (by simp) (.slice qj nj dj)
  have G23_1 : Cells ((w12.setCell ⟨B1, 0, none⟩ (.slice qj nj dj)).setCell ⟨B1, 1, none⟩ (.int .i64 cn)) B1 #[.slice qj nj dj, .int .i64 cn, .int .i64 0, .slice none 0 0, .int .i64 0, .slice none 0 0, .int .i64 0, .slice none 0 0, .int .i64 0, .slice none 0 0, .slice none 0 0, .slice none 0 0, .slice none 0 0] := G23_0.set 1 (by simp) (.int .i64 cn)
  have G23_2 : Cells (((w12.setCell ⟨B1, 0, none⟩ (.slice qj nj dj)).setCell ⟨B1, 1, none⟩ (.int .i64 cn)).setCell ⟨B1, 2, none⟩ (.int .i64 kn)) B1 #[.slice qj nj dj, .int .i64 cn, .int .i64 kn, .slice none 0 0, .int .i64 0, .slice none 0 0, .int .i64 0, .slice none 0 0, .int .i64 0, .slice none 0 0, .slice none 0 0, .slice none 0 0, .slice none 0 0] := G23_1.set 2 (by simp) (.int .i64 kn)
  have G23_3 : Cells ((((w12.setCell ⟨B1, 0, none⟩ (.slice qj nj dj)).setCell ⟨B1, 1, none⟩ (.int .i64 cn)).setCell ⟨B1, 2, none⟩ (.int .i64 kn)).setCell ⟨B1, 3, none⟩ (.slice qq nq dq)) B1 #[.slice qj nj dj, .int .i64 cn, .int .i64 kn, .slice qq nq dq, .int .i64 0, .slice none 0 0, .int .i64 0, .slice none 0 0, .int .i64 0, .slice none 0 0, .slice none 0 0, .slice none 0 0, .slice none 0 0] := G23_2.set 3 (by simp) (.slice qq nq dq)
  have G23_4 : Cells (((((w12.setCell ⟨B1, 0, none⟩ (.slice qj nj dj)).setCell ⟨B1, 1, none⟩ (.int .i64 cn)).setCell ⟨B1, 2, none⟩ (.int .i64 kn)).setCell ⟨B1, 3, none⟩ (.slice qq nq dq)).setCell ⟨B1, 4, none⟩ (.int .i64 t)) B1 #[.slice qj nj dj, .int .i64 cn, .int .i64 kn, .slice qq nq dq, .int .i64 t, .slice none 0 0, .int .i64 0, .slice none 0 0, .int .i64 0, .slice none 0 0, .slice none 0 0, .slice none 0 0, .slice none 0 0] := G23_3.set 4 (by simp) (.int .i64 t)
  have G23_5 : Cells ((((((w12.setCell ⟨B1, 0, none⟩ (.slice qj nj dj)).setCell ⟨B1, 1, none⟩ (.int .i64 cn)).setCell ⟨B1, 2, none⟩ (.int .i64 kn)).setCell ⟨B1, 3, none⟩ (.slice qq nq dq)).setCell ⟨B1, 4, none⟩ (.int .i64 t)).setCell ⟨B1, 5, none⟩ (.slice qb nb db)) B1 #[.slice qj nj dj, .int .i64 cn, .int .i64 kn, .slice qq nq dq, .int .i64 t, .slice qb nb db, .int .i64 0, .slice none 0 0, .int .i64 0, .slice none 0 0, .slice none 0 0, .slice none 0 0, .slice none 0 0] := G23_4.set 5 (by simp) (.slice qb nb db)
  have G23_6 : Cells (((((((w12.setCell ⟨B1, 0, none⟩ (.slice qj nj dj)).setCell ⟨B1, 1, none⟩ (.int .i64 cn)).setCell ⟨B1, 2, none⟩ (.int .i64 kn)).setCell ⟨B1, 3, none⟩ (.slice qq nq dq)).setCell ⟨B1, 4, none⟩ (.int .i64 t)).setCell ⟨B1, 5, none⟩ (.slice qb nb db)).setCell ⟨B1, 6, none⟩ (.int .i64 u)) B1 #[.slice qj nj dj, .int .i64 cn, .int .i64 kn, .slice qq nq dq, .int .i64 t, .slice qb nb db, .int .i64 u, .slice none 0 0, .int .i64 0, .slice none 0 0, .slice none 0 0, .slice none 0 0, .slice none 0 0] := G23_5.set 6 (by simp) (.int .i64 u)
  have G23_7 : Cells ((((((((w12.setCell ⟨B1, 0, none⟩ (.slice qj nj dj)).setCell ⟨B1, 1, none⟩ (.int .i64 cn)).setCell ⟨B1, 2, none⟩ (.int .i64 kn)).setCell ⟨B1, 3, none⟩ (.slice qq nq dq)).setCell ⟨B1, 4, none⟩ (.int .i64 t)).setCell ⟨B1, 5, none⟩ (.slice qb nb db)).setCell ⟨B1, 6, none⟩ (.int .i64 u)).setCell ⟨B1, 7, none⟩ (.slice qs ns ds)) B1 #[.slice qj nj dj, .int .i64 cn, .int .i64 kn, .slice qq nq dq, .int .i64 t, .slice qb nb db, .int .i64 u, .slice qs ns ds, .int .i64 0, .slice none 0 0, .slice none 0 0, .slice none 0 0, .slice none 0 0] := G23_6.set 7 (by simp) (.slice qs ns ds)
  have G23_8 : Cells (((((((((w12.setCell ⟨B1, 0, none⟩ (.slice qj nj dj)).setCell ⟨B1, 1, none⟩ (.int .i64 cn)).setCell ⟨B1, 2, none⟩ (.int .i64 kn)).setCell ⟨B1, 3, none⟩ (.slice qq nq dq)).setCell ⟨B1, 4, none⟩ (.int .i64 t)).setCell ⟨B1, 5, none⟩ (.slice qb nb db)).setCell ⟨B1, 6, none⟩ (.int .i64 u)).setCell ⟨B1, 7, none⟩ (.slice qs ns ds)).setCell ⟨B1, 8, none⟩ (.int .i64 e)) B1 #[.slice qj nj dj, .int .i64 cn, .int .i64 kn, .slice qq nq dq, .int .i64 t, .slice qb nb db, .int .i64 u, .slice qs ns ds, .int .i64 e, .slice none 0 0, .slice none 0 0, .slice none 0 0, .slice none 0 0] := G23_7.set 8 (by simp) (.int .i64 e)
  have G23_9 : Cells ((((((((((w12.setCell ⟨B1, 0, none⟩ (.slice qj nj dj)).setCell ⟨B1, 1, none⟩ (.int .i64 cn)).setCell ⟨B1, 2, none⟩ (.int .i64 kn)).setCell ⟨B1, 3, none⟩ (.slice qq nq dq)).setCell ⟨B1, 4, none⟩ (.int .i64 t)).setCell ⟨B1, 5, none⟩ (.slice qb nb db)).setCell ⟨B1, 6, none⟩ (.int .i64 u)).setCell ⟨B1, 7, none⟩ (.slice qs ns ds)).setCell ⟨B1, 8, none⟩ (.int .i64 e)).setCell ⟨B1, 9, none⟩ (.slice qv nv dv)) B1 #[.slice qj nj dj, .int .i64 cn, .int .i64 kn, .slice qq nq dq, .int .i64 t, .slice qb nb db, .int .i64 u, .slice qs ns ds, .int .i64 e, .slice qv nv dv, .slice none 0 0, .slice none 0 0, .slice none 0 0] := G23_8.set 9 (by simp) (.slice qv nv dv)
  have G23_10 : Cells (((((((((((w12.setCell ⟨B1, 0, none⟩ (.slice qj nj dj)).setCell ⟨B1, 1, none⟩ (.int .i64 cn)).setCell ⟨B1, 2, none⟩ (.int .i64 kn)).setCell ⟨B1, 3, none⟩ (.slice qq nq dq)).setCell ⟨B1, 4, none⟩ (.int .i64 t)).setCell ⟨B1, 5, none⟩ (.slice qb nb db)).setCell ⟨B1, 6, none⟩ (.int .i64 u)).setCell ⟨B1, 7, none⟩ (.slice qs ns ds)).setCell ⟨B1, 8, none⟩ (.int .i64 e)).setCell ⟨B1, 9, none⟩ (.slice qv nv dv)).setCell ⟨B1, 10, none⟩ (.slice qg ng dg)) B1 #[.slice qj nj dj, .int .i64 cn, .int .i64 kn, .slice qq nq dq, .int .i64 t, .slice qb nb db, .int .i64 u, .slice qs ns ds, .int .i64 e, .slice qv nv dv, .slice qg ng dg, .slice none 0 0, .slice none 0 0] := G23_9.set 10 (by simp) (.slice qg ng dg)
  have G23_11 : Cells ((((((((((((w12.setCell ⟨B1, 0, none⟩ (.slice qj nj dj)).setCell ⟨B1, 1, none⟩ (.int .i64 cn)).setCell ⟨B1, 2, none⟩ (.int .i64 kn)).setCell ⟨B1, 3, none⟩ (.slice qq nq dq)).setCell ⟨B1, 4, none⟩ (.int .i64 t)).setCell ⟨B1, 5, none⟩ (.slice qb nb db)).setCell ⟨B1, 6, none⟩ (.int .i64 u)).setCell ⟨B1, 7, none⟩ (.slice qs ns ds)).setCell ⟨B1, 8, none⟩ (.int .i64 e)).setCell ⟨B1, 9, none⟩ (.slice qv nv dv)).setCell ⟨B1, 10, none⟩ (.slice qg ng dg)).setCell ⟨B1, 11, none⟩ (.slice qw nw dw)) B1 #[.slice qj nj dj, .int .i64 cn, .int .i64 kn, .slice qq nq dq, .int .i64 t, .slice qb nb db, .int .i64 u, .slice qs ns ds, .int .i64 e, .slice qv nv dv, .slice qg ng dg, .slice qw nw dw, .slice none 0 0] := G23_10.set 11 (by simp) (.slice qw nw dw)
  have G23_12 : Cells (((((((((((((w12.setCell ⟨B1, 0, none⟩ (.slice qj nj dj)).setCell ⟨B1, 1, none⟩ (.int .i64 cn)).setCell ⟨B1, 2, none⟩ (.int .i64 kn)).setCell ⟨B1, 3, none⟩ (.slice qq nq dq)).setCell ⟨B1, 4, none⟩ (.int .i64 t)).setCell ⟨B1, 5, none⟩ (.slice qb nb db)).setCell ⟨B1, 6, none⟩ (.int .i64 u)).setCell ⟨B1, 7, none⟩ (.slice qs ns ds)).setCell ⟨B1, 8, none⟩ (.int .i64 e)).setCell ⟨B1, 9, none⟩ (.slice qv nv dv)).setCell ⟨B1, 10, none⟩ (.slice qg ng dg)).setCell ⟨B1, 11, none⟩ (.slice qw nw dw)).setCell ⟨B1, 12, none⟩ (.slice qz nz dz)) B1 #[.slice qj nj dj, .int .i64 cn, .int .i64 kn, .slice qq nq dq, .int .i64 t, .slice qb nb db, .int .i64 u, .slice qs ns ds, .int .i64 e, .slice qv nv dv, .slice qg ng dg, .slice qw nw dw, .slice qz nz dz] := G23_11.set 12 (by simp) (.slice qz nz dz)
  have k23 := (((((((((((((k22).setCell (p := ⟨B1, 0, none⟩) (by show B0 ≤ B1; omega) (.slice qj nj dj)).setCell (p := ⟨B1, 1, none⟩) (by show B0 ≤ B1; omega) (.int .i64 cn)).setCell (p := ⟨B1, 2, none⟩) (by show B0 ≤ B1; omega) (.int .i64 kn)).setCell (p := ⟨B1, 3, none⟩) (by show B0 ≤ B1; omega) (.slice qq nq dq)).setCell (p := ⟨B1, 4, none⟩) (by show B0 ≤ B1; omega) (.int .i64 t)).setCell (p := ⟨B1, 5, none⟩) (by show B0 ≤ B1; omega) (.slice qb nb db)).setCell (p := ⟨B1, 6, none⟩) (by show B0 ≤ B1; omega) (.int .i64 u)).setCell (p := ⟨B1, 7, none⟩) (by show B0 ≤ B1; omega) (.slice qs ns ds)).setCell (p := ⟨B1, 8, none⟩) (by show B0 ≤ B1; omega) (.int .i64 e)).setCell (p := ⟨B1, 9, none⟩) (by show B0 ≤ B1; omega) (.slice qv nv dv)).setCell (p := ⟨B1, 10, none⟩) (by show B0 ≤ B1; omega) (.slice qg ng dg)).setCell (p := ⟨B1, 11, none⟩) (by show B0 ≤ B1; omega) (.slice qw nw dw)).setCell (p := ⟨B1, 12, none⟩) (by show B0 ≤ B1; omega) (.slice qz nz dz)
  have E2_23 := G23_12
  clear G23_0 G23_1 G23_2 G23_3 G23_4 G23_5 G23_6 G23_7 G23_8 G23_9 G23_10 G23_11 G23_12
  have n23 : Wn B1 (B1 + 1) w12 (((((((((((((w12.setCell ⟨B1, 0, none⟩ (.slice qj nj dj)).setCell ⟨B1, 1, none⟩ (.int .i64 cn)).setCell ⟨B1, 2, none⟩ (.int .i64 kn)).setCell ⟨B1, 3, none⟩ (.slice qq nq dq)).setCell ⟨B1, 4, none⟩ (.int .i64 t)).setCell ⟨B1, 5, none⟩ (.slice qb nb db)).setCell ⟨B1, 6, none⟩ (.int .i64 u)).setCell ⟨B1, 7, none⟩ (.slice qs ns ds)).setCell ⟨B1, 8, none⟩ (.int .i64 e)).setCell ⟨B1, 9, none⟩ (.slice qv nv dv)).setCell ⟨B1, 10, none⟩ (.slice qg ng dg)).setCell ⟨B1, 11, none⟩ (.slice qw nw dw)).setCell ⟨B1, 12, none⟩ (.slice qz nz dz)) := ((((((((((((((Wn.refl B1 (B1 + 1) w12)).set ⟨B1, 0, none⟩ (.slice qj nj dj) ⟨Nat.le_refl _, Nat.lt_succ_self _⟩).set ⟨B1, 1, none⟩ (.int .i64 cn) ⟨Nat.le_refl _, Nat.lt_succ_self _⟩).set ⟨B1, 2, none⟩ (.int .i64 kn) ⟨Nat.le_refl _, Nat.lt_succ_self _⟩).set ⟨B1, 3, none⟩ (.slice qq nq dq) ⟨Nat.le_refl _, Nat.lt_succ_self _⟩).set ⟨B1, 4, none⟩ (.int .i64 t) ⟨Nat.le_refl _, Nat.lt_succ_self _⟩).set ⟨B1, 5, none⟩ (.slice qb nb db) ⟨Nat.le_refl _, Nat.lt_succ_self _⟩).set ⟨B1, 6, none⟩ (.int .i64 u) ⟨Nat.le_refl _, Nat.lt_succ_self _⟩).set ⟨B1, 7, none⟩ (.slice qs ns ds) ⟨Nat.le_refl _, Nat.lt_succ_self _⟩).set ⟨B1, 8, none⟩ (.int .i64 e) ⟨Nat.le_refl _, Nat.lt_succ_self _⟩).set ⟨B1, 9, none⟩ (.slice qv nv dv) ⟨Nat.le_refl _, Nat.lt_succ_self _⟩).set ⟨B1, 10, none⟩ (.slice qg ng dg) ⟨Nat.le_refl _, Nat.lt_succ_self _⟩).set ⟨B1, 11, none⟩ (.slice qw nw dw) ⟨Nat.le_refl _, Nat.lt_succ_self _⟩).set ⟨B1, 12, none⟩ (.slice qz nz dz) ⟨Nat.le_refl _, Nat.lt_succ_self _⟩
  obtain ⟨w13, hw23⟩ : ∃ X, X = (((((((((((((w12.setCell ⟨B1, 0, none⟩ (.slice qj nj dj)).setCell ⟨B1, 1, none⟩ (.int .i64 cn)).setCell ⟨B1, 2, none⟩ (.int .i64 kn)).setCell ⟨B1, 3, none⟩ (.slice qq nq dq)).setCell ⟨B1, 4, none⟩ (.int .i64 t)).setCell ⟨B1, 5, none⟩ (.slice qb nb db)).setCell ⟨B1, 6, none⟩ (.int .i64 u)).setCell ⟨B1, 7, none⟩ (.slice qs ns ds)).setCell ⟨B1, 8, none⟩ (.int .i64 e)).setCell ⟨B1, 9, none⟩ (.slice qv nv dv)).setCell ⟨B1, 10, none⟩ (.slice qg ng dg)).setCell ⟨B1, 11, none⟩ (.slice qw nw dw)).setCell ⟨B1, 12, none⟩ (.slice qz nz dz)) := ⟨_, rfl⟩
  rw [← hw23] at k23 E2_23 n23
  replace hw23 : Hid ((((((((((((((w12.setCell ⟨B1, 0, none⟩ (.slice qj nj dj)).setCell ⟨B1, 1, none⟩ (.int .i64 cn)).setCell ⟨B1, 2, none⟩ (.int .i64 kn)).setCell ⟨B1, 3, none⟩ (.slice qq nq dq)).setCell ⟨B1, 4, none⟩ (.int .i64 t)).setCell ⟨B1, 5, none⟩ (.slice qb nb db)).setCell ⟨B1, 6, none⟩ (.int .i64 u)).setCell ⟨B1, 7, none⟩ (.slice qs ns ds)).setCell ⟨B1, 8, none⟩ (.int .i64 e)).setCell ⟨B1, 9, none⟩ (.slice qv nv dv)).setCell ⟨B1, 10, none⟩ (.slice qg ng dg)).setCell ⟨B1, 11, none⟩ (.slice qw nw dw)).setCell ⟨B1, 12, none⟩ (.slice qz nz dz)) = w13) := hw23.symm
  replace Pj := Pj.past n23 (by omega)
  replace Pq := Pq.past n23 (by omega)
  replace Pb := Pb.past n23 (by omega)
  replace Ps := Ps.past n23 (by omega)
  replace Pv := Pv.past n23 (by omega)
  replace Pg := Pg.past n23 (by omega)
  replace Pw := Pw.past n23 (by omega)
  replace Pz := Pz.past n23 (by omega)
  have y23 := n23.size
  clear n23 D1
  have D1 := E2_23
  clear E2_23
  clear k22
  have u0 : w13.cell? ⟨B1, 0, none⟩ = some (.slice qj nj dj) := (D1.2 0).1
  have u1 : w13.cell? ⟨B1, 1, none⟩ = some (.int .i64 cn) := (D1.2 1).1
  have u2 : w13.cell? ⟨B1, 2, none⟩ = some (.int .i64 kn) := (D1.2 2).1
  have u3 : w13.cell? ⟨B1, 3, none⟩ = some (.slice qq nq dq) := (D1.2 3).1
  have u4 : w13.cell? ⟨B1, 4, none⟩ = some (.int .i64 t) := (D1.2 4).1
  have u5 : w13.cell? ⟨B1, 5, none⟩ = some (.slice qb nb db) := (D1.2 5).1
  have u6 : w13.cell? ⟨B1, 6, none⟩ = some (.int .i64 u) := (D1.2 6).1
  have u7 : w13.cell? ⟨B1, 7, none⟩ = some (.slice qs ns ds) := (D1.2 7).1
  have u8 : w13.cell? ⟨B1, 8, none⟩ = some (.int .i64 e) := (D1.2 8).1
  have u9 : w13.cell? ⟨B1, 9, none⟩ = some (.slice qv nv dv) := (D1.2 9).1
  have u10 : w13.cell? ⟨B1, 10, none⟩ = some (.slice qg ng dg) := (D1.2 10).1
  have u11 : w13.cell? ⟨B1, 11, none⟩ = some (.slice qw nw dw) := (D1.2 11).1
  have u12 : w13.cell? ⟨B1, 12, none⟩ = some (.slice qz nz dz) := (D1.2 12).1
  clear D1 D2 D0
  go_wp2_with (first | rw [hw22.out] | rw [hw23.out])
  clear c22_0 z22_0 m0 q0 x0 m1 q1 x1 m2 q2 x2 m3 q3 x3 m4 q4 x4 m5 q5 x5 m6 q6 x6 m7 q7 x7 m8 q8 x8 m9 q9 x9 m10 q10 x10 m11 q11 x11 m12 q12 x12 hw22 hw23
  rw [← hB0.out] at k23 g0
  refine bodyPost_ret (v := .agg #[.slice qj nj dj, .int .i64 cn, .int .i64 kn, .slice qq nq dq, .int .i64 t, .slice qb nb db, .int .i64 u, .slice qs ns ds, .int .i64 e, .slice qv nv dv, .slice qg ng dg, .slice qw nw dw, .slice qz nz dz]) ?_ rfl ⟨qj, dj, qq, dq, yq, qb, db, qs, ds, qv, dv, yv, qg, dg, yg, qw, dw, yw, qz, dz, yz, w1.heap.size, Kq, w5.heap.size, Ks, Kv, w7.heap.size, w9.heap.size, rfl, Pj.wide (by omega) (by omega), Pq.wide (by omega) (by omega), Pb.wide (by omega) (by omega), Ps.wide (by omega) (by omega), Pv.wide (by omega) (by omega), Pg.wide (by omega) (by omega), Pw.wide (by omega) (by omega), Pz.wide (by omega) (by omega), by omega, by omega, by omega, by omega, by omega, by omega, by omega, by omega, hq, hv, hg, hw, hz, k23⟩
  simp only [results, Tryz.f15]
  go_simp

set_option maxHeartbeats 4000000 in
theorem eqWorldF_true (pj : Option Addr) (nj cj : Nat) (cn : Int) (kn : Int) (pq : Option Addr) (nq cq : Nat) (t : Int) (pb : Option Addr) (nb cb : Nat) (u : Int) (ps : Option Addr) (ns cs : Nat) (e : Int) (pv : Option Addr) (nv cv : Nat) (pg : Option Addr) (ng cg : Nat) (pw : Option Addr) (nw cw : Nat) (pz : Option Addr) (nz cz : Nat) (pj' : Option Addr) (nj' cj' : Nat) (pq' : Option Addr) (nq' cq' : Nat) (pb' : Option Addr) (nb' cb' : Nat) (ps' : Option Addr) (ns' cs' : Nat) (pv' : Option Addr) (nv' cv' : Nat) (pg' : Option Addr) (ng' cg' : Nat) (pw' : Option Addr) (nw' cw' : Nat) (pz' : Option Addr) (nz' cz' : Nat) (xj : List Int) (xq : List Rc) (xb : List Int) (xs : List Int) (xv : List Rc) (xg : List Rc) (xw : List Rc) (xz : List Rc) (xq' : List Rc) (xv' : List Rc) (xg' : List Rc) (xw' : List Rc) (xz' : List Rc) (w : World) (okj : RwA.Ok w ⟨pj, nj, cj, xj⟩) (okq : RecA w 4 ItemSh pq nq xq) (okb : RwA.Ok w ⟨pb, nb, cb, xb⟩) (oks : RwA.Ok w ⟨ps, ns, cs, xs⟩) (okv : RecA w 1 RowSh pv nv xv) (okg : RecA w 1 RowSh pg ng xg) (okw : RecA w 6 WireSh pw nw xw) (okz : RecA w 4 SentSh pz nz xz) (okj' : RwA.Ok w ⟨pj', nj', cj', xj⟩) (okq' : RecA w 4 ItemSh pq' nq' xq') (okb' : RwA.Ok w ⟨pb', nb', cb', xb⟩) (oks' : RwA.Ok w ⟨ps', ns', cs', xs⟩) (okv' : RecA w 1 RowSh pv' nv' xv') (okg' : RecA w 1 RowSh pg' ng' xg') (okw' : RecA w 6 WireSh pw' nw' xw') (okz' : RecA w 4 SentSh pz' nz' xz') (hq : Hid (xq.map Rc.con = xq'.map Rc.con)) (hv : Hid (xv.map Rc.con = xv'.map Rc.con)) (hg : Hid (xg.map Rc.con = xg'.map Rc.con)) (hw : Hid (xw.map Rc.con = xw'.map Rc.con)) (hz : Hid (xz.map Rc.con = xz'.map Rc.con)) : Calls Tryz.prog 8 #[.agg #[.slice pj nj cj, .int .i64 cn, .int .i64 kn, .slice pq nq cq, .int .i64 t, .slice pb nb cb, .int .i64 u, .slice ps ns cs, .int .i64 e, .slice pv nv cv, .slice pg ng cg, .slice pw nw cw, .slice pz nz cz], .agg #[.slice pj' nj' cj', .int .i64 cn, .int .i64 kn, .slice pq' nq' cq', .int .i64 t, .slice pb' nb' cb', .int .i64 u, .slice ps' ns' cs', .int .i64 e, .slice pv' nv' cv', .slice pg' ng' cg', .slice pw' nw' cw', .slice pz' nz' cz']] w fun z w' => z = .returned (.bool true) ∧ Below w.heap.size w w' := by
  have kA : ∀ o1 o2, Below w.heap.size w ((w.alloc o1).alloc o2) := fun o1 o2 => made_below _ _ (made_below _ _ (Below.refl _ _))
  have sz : ∀ (W : World) o, (W.alloc o).heap.size = W.heap.size + 1 := fun W o => by simp
  have n_cn : (cn != cn) = false := by simp
  have n_kn : (kn != kn) = false := by simp
  go_enter Tryz.func8, Tryz.ntmps8
  go_wp2_with (fail)
  refine (eqBytes_true pj pj' nj nj' cj cj' xj w _ okj okj' (kA _ _)).mono ?_
  rintro z w1 ⟨rfl, b1⟩
  have D1 := (Cells.made w _ _).on (made_below _ _ b1)
  have D2 := (Cells.made (w.alloc _) _ _).on b1
  have k1 := made_below _ _ (made_below _ _ b1)
  rw [sz] at D2
  clear kA sz b1
  have l1 : w1.cell? ⟨w.heap.size, 1, none⟩ = some (.int .i64 cn) := (D1.2 1).1
  have r1 : w1.cell? ⟨w.heap.size + 1, 1, none⟩ = some (.int .i64 cn) := (D2.2 1).1
  have l2 : w1.cell? ⟨w.heap.size, 2, none⟩ = some (.int .i64 kn) := (D1.2 2).1
  have r2 : w1.cell? ⟨w.heap.size + 1, 2, none⟩ = some (.int .i64 kn) := (D2.2 2).1
  have l3 : w1.cell? ⟨w.heap.size, 3, none⟩ = some (.slice pq nq cq) := (D1.2 3).1
  have r3 : w1.cell? ⟨w.heap.size + 1, 3, none⟩ = some (.slice pq' nq' cq') := (D2.2 3).1
  have l4 : w1.cell? ⟨w.heap.size, 4, none⟩ = some (.int .i64 t) := (D1.2 4).1
  have r4 : w1.cell? ⟨w.heap.size + 1, 4, none⟩ = some (.int .i64 t) := (D2.2 4).1
  have l5 : w1.cell? ⟨w.heap.size, 5, none⟩ = some (.slice pb nb cb) := (D1.2 5).1
  have r5 : w1.cell? ⟨w.heap.size + 1, 5, none⟩ = some (.slice pb' nb' cb') := (D2.2 5).1
  have l6 : w1.cell? ⟨w.heap.size, 6, none⟩ = some (.int .i64 u) := (D1.2 6).1
  have r6 : w1.cell? ⟨w.heap.size + 1, 6, none⟩ = some (.int .i64 u) := (D2.2 6).1
  go_wp2_with (fail)
  clear l1 r1 l2 r2 l3 r3 l4 r4 l5 r5 l6 r6
  refine (eqPostF_true pq nq cq t pb nb cb u pq' nq' cq' pb' nb' cb' xq xb xq' _ (okq.on k1) (okb.on k1) (okq'.on k1) (okb'.on k1) hq).mono ?_
  rintro z w2 ⟨rfl, b2⟩
  replace D1 := D1.on b2
  replace D2 := D2.on b2
  have k2 := below_on k1 b2
  clear k1 b2
  have l7 : w2.cell? ⟨w.heap.size, 7, none⟩ = some (.slice ps ns cs) := (D1.2 7).1
  have r7 : w2.cell? ⟨w.heap.size + 1, 7, none⟩ = some (.slice ps' ns' cs') := (D2.2 7).1
  have l8 : w2.cell? ⟨w.heap.size, 8, none⟩ = some (.int .i64 e) := (D1.2 8).1
  have r8 : w2.cell? ⟨w.heap.size + 1, 8, none⟩ = some (.int .i64 e) := (D2.2 8).1
  have l9 : w2.cell? ⟨w.heap.size, 9, none⟩ = some (.slice pv nv cv) := (D1.2 9).1
  have r9 : w2.cell? ⟨w.heap.size + 1, 9, none⟩ = some (.slice pv' nv' cv') := (D2.2 9).1
  have l10 : w2.cell? ⟨w.heap.size, 10, none⟩ = some (.slice pg ng cg) := (D1.2 10).1
  have r10 : w2.cell? ⟨w.heap.size + 1, 10, none⟩ = some (.slice pg' ng' cg') := (D2.2 10).1
  go_wp2_with (fail)
  clear l7 r7 l8 r8 l9 r9 l10 r10
  refine (eqReaderF_true ps ns cs e pv nv cv pg ng cg ps' ns' cs' pv' nv' cv' pg' ng' cg' xs xv xg xv' xg' _ (oks.on k2) (okv.on k2) (okg.on k2) (oks'.on k2) (okv'.on k2) (okg'.on k2) hv hg).mono ?_
  rintro z w3 ⟨rfl, b3⟩
  replace D1 := D1.on b3
  replace D2 := D2.on b3
  have k3 := below_on k2 b3
  clear k2 b3
  have l11 : w3.cell? ⟨w.heap.size, 11, none⟩ = some (.slice pw nw cw) := (D1.2 11).1
  have r11 : w3.cell? ⟨w.heap.size + 1, 11, none⟩ = some (.slice pw' nw' cw') := (D2.2 11).1
  go_wp2_with (fail)
  clear l11 r11
  refine (eqWireSF_true pw pw' nw nw' cw cw' xw xw' _ (okw.on k3) (okw'.on k3) hw).mono ?_
  rintro z w4 ⟨rfl, b4⟩
  replace D1 := D1.on b4
  replace D2 := D2.on b4
  have k4 := below_on k3 b4
  clear k3 b4
  have l12 : w4.cell? ⟨w.heap.size, 12, none⟩ = some (.slice pz nz cz) := (D1.2 12).1
  have r12 : w4.cell? ⟨w.heap.size + 1, 12, none⟩ = some (.slice pz' nz' cz') := (D2.2 12).1
  go_wp2_with (fail)
  clear l12 r12
  refine (eqSentSF_true pz pz' nz nz' cz cz' xz xz' _ (okz.on k4) (okz'.on k4) hz).mono ?_
  rintro z w5 ⟨rfl, b5⟩
  replace D1 := D1.on b5
  replace D2 := D2.on b5
  have k5 := below_on k4 b5
  clear k4 b5
  go_wp2_with (fail)
  go_ret
  exact ⟨rfl, k5⟩

set_option maxHeartbeats 8000000 in
theorem markWorldF_sh (pj : Option Addr) (nj cj : Nat) (cn : Int) (kn : Int) (pq : Option Addr) (nq cq : Nat) (t : Int) (pb : Option Addr) (nb cb : Nat) (u : Int) (ps : Option Addr) (ns cs : Nat) (e : Int) (pv : Option Addr) (nv cv : Nat) (pg : Option Addr) (ng cg : Nat) (pw : Option Addr) (nw cw : Nat) (pz : Option Addr) (nz cz : Nat) (xj : List Int) (xq : List Rc) (xb : List Int) (xs : List Int) (xv : List Rc) (xg : List Rc) (xw : List Rc) (xz : List Rc) (lo hi k0 : Nat) (Kj : Nat) (Kq : Nat) (Kb : Nat) (Ks : Nat) (Kv : Nat) (Kg : Nat) (Kw : Nat) (w : World) (Pj : RwA.P w lo Kj ⟨pj, nj, cj, xj⟩) (Pq : RecP w Kj Kq 4 ItemSh pq nq xq) (Pb : RwA.P w Kq Kb ⟨pb, nb, cb, xb⟩) (Ps : RwA.P w Kb Ks ⟨ps, ns, cs, xs⟩) (Pv : RecP w Ks Kv 1 RowSh pv nv xv) (Pg : RecP w Kv Kg 1 RowSh pg ng xg) (Pw : RecP w Kg Kw 6 WireSh pw nw xw) (Pz : RecP w Kw hi 4 SentSh pz nz xz) (s0 : lo ≤ Kj) (s1 : Kj ≤ Kq) (s2 : Kq ≤ Kb) (s3 : Kb ≤ Ks) (s4 : Ks ≤ Kv) (s5 : Kv ≤ Kg) (s6 : Kg ≤ Kw) (s7 : Kw ≤ hi) (hhi : hi ≤ w.heap.size) (hk0 : 0 < k0) (hkk : k0 + (nj + (costF xq + nb) + (ns + costF xv + costF xg) + costF xw + costF xz) ≤ 100000000) : Calls Tryz.prog 11 #[.agg #[.slice pj nj cj, .int .i64 cn, .int .i64 kn, .slice pq nq cq, .int .i64 t, .slice pb nb cb, .int .i64 u, .slice ps ns cs, .int .i64 e, .slice pv nv cv, .slice pg ng cg, .slice pw nw cw, .slice pz nz cz], .int .i64 (k0 : Int)] w fun e w' => e = .returned (.int .i64 ((k0 + (nj + (costF xq + nb) + (ns + costF xv + costF xg) + costF xw + costF xz) : Nat) : Int)) ∧ Wn lo hi w w' := by
  obtain ⟨k1, hk1⟩ : ∃ q : Nat, q = k0 + nj := ⟨_, rfl⟩
  obtain ⟨k2, hk2⟩ : ∃ q : Nat, q = k1 + (costF xq + nb) := ⟨_, rfl⟩
  obtain ⟨k3, hk3⟩ : ∃ q : Nat, q = k2 + (ns + costF xv + costF xg) := ⟨_, rfl⟩
  obtain ⟨k4, hk4⟩ : ∃ q : Nat, q = k3 + costF xw := ⟨_, rfl⟩
  obtain ⟨k5, hk5⟩ : ∃ q : Nat, q = k4 + costF xz := ⟨_, rfl⟩
  have r1 : 0 < k1 ∧ k1 ≤ 100000000 := by omega
  have b0 : k0 + nj ≤ 100000000 := by omega
  have r2 : 0 < k2 ∧ k2 ≤ 100000000 := by omega
  have b1 : k1 + (costF xq + nb) ≤ 100000000 := by omega
  have r3 : 0 < k3 ∧ k3 ≤ 100000000 := by omega
  have b2 : k2 + (ns + costF xv + costF xg) ≤ 100000000 := by omega
  have r4 : 0 < k4 ∧ k4 ≤ 100000000 := by omega
  have b3 : k3 + costF xw ≤ 100000000 := by omega
  have r5 : 0 < k5 ∧ k5 ≤ 100000000 := by omega
  have b4 : k4 + costF xz ≤ 100000000 := by omega
  have e1 : (k0 : Int) + (nj : Int) = (k1 : Int) := by omega
  have fn0 : nj ≤ 1099511627776 := by omega
  have hsum : k0 + (nj + (costF xq + nb) + (ns + costF xv + costF xg) + costF xw + costF xz) = k5 := by omega
  rw [hsum]
  clear hsum hkk
  replace hk1 : Hid (k1 = k0 + nj) := hk1
  replace hk2 : Hid (k2 = k1 + (costF xq + nb)) := hk2
  replace hk3 : Hid (k3 = k2 + (ns + costF xv + costF xg)) := hk3
  replace hk4 : Hid (k4 = k3 + costF xw) := hk4
  replace hk5 : Hid (k5 = k4 + costF xz) := hk5
  have kA : ∀ o, Below w.heap.size w (w.alloc o) := fun o => made_below _ _ (Below.refl _ _)
  go_enter Tryz.func11, Tryz.ntmps11
  go_wp2_with (fail)
  refine (markByteS_sh lo Kj pj nj cj (k0 : Int) _ fn0 (by omega) (by omega) ((Pj.past (Wn.of_below (lo := 0) (hi := 0) (kA _)) (Or.inr (Nat.zero_le _)))).sh).mono ?_
  rintro z w1 ⟨rfl, hW1, _⟩
  have D := (Cells.made w _ _).pastW hW1 (Or.inr (by omega))
  replace Pq := (Pq.past (Wn.of_below (lo := 0) (hi := 0) (kA _)) (Or.inr (Nat.zero_le _))).past hW1 (by omega)
  replace Pb := (Pb.past (Wn.of_below (lo := 0) (hi := 0) (kA _)) (Or.inr (Nat.zero_le _))).past hW1 (by omega)
  replace Ps := (Ps.past (Wn.of_below (lo := 0) (hi := 0) (kA _)) (Or.inr (Nat.zero_le _))).past hW1 (by omega)
  replace Pv := (Pv.past (Wn.of_below (lo := 0) (hi := 0) (kA _)) (Or.inr (Nat.zero_le _))).past hW1 (by omega)
  replace Pg := (Pg.past (Wn.of_below (lo := 0) (hi := 0) (kA _)) (Or.inr (Nat.zero_le _))).past hW1 (by omega)
  replace Pw := (Pw.past (Wn.of_below (lo := 0) (hi := 0) (kA _)) (Or.inr (Nat.zero_le _))).past hW1 (by omega)
  replace Pz := (Pz.past (Wn.of_below (lo := 0) (hi := 0) (kA _)) (Or.inr (Nat.zero_le _))).past hW1 (by omega)
  have V1 : Wn lo hi w w1 := (Wn.of_below (kA _)).trans (hW1.wide (by omega) (by omega))
  have y1 := V1.size
  rw [e1]
  have l3 : w1.cell? ⟨w.heap.size, 3, none⟩ = some (.slice pq nq cq) := (D.2 3).1
  have l4 : w1.cell? ⟨w.heap.size, 4, none⟩ = some (.int .i64 t) := (D.2 4).1
  have l5 : w1.cell? ⟨w.heap.size, 5, none⟩ = some (.slice pb nb cb) := (D.2 5).1
  have l6 : w1.cell? ⟨w.heap.size, 6, none⟩ = some (.int .i64 u) := (D.2 6).1
  clear hW1
  go_wp2_with (fail)
  clear l3 l4 l5 l6
  refine (markPostF_sh pq nq cq t pb nb cb u xq xb Kj Kb k1 Kq _ Pq Pb s1 s2 (by omega) (by omega) b1).mono ?_
  rintro z w2 ⟨rfl, hW2⟩
  replace D := D.pastW hW2 (Or.inr (by omega))
  replace Ps := Ps.past hW2 (by omega)
  replace Pv := Pv.past hW2 (by omega)
  replace Pg := Pg.past hW2 (by omega)
  replace Pw := Pw.past hW2 (by omega)
  replace Pz := Pz.past hW2 (by omega)
  have V2 := V1.trans (hW2.wide (lo' := lo) (hi' := hi) (by omega) (by omega))
  clear V1 y1
  have y2 := V2.size
  rw [show k1 + (costF xq + nb) = k2 from hk2.out.symm]
  have l7 : w2.cell? ⟨w.heap.size, 7, none⟩ = some (.slice ps ns cs) := (D.2 7).1
  have l8 : w2.cell? ⟨w.heap.size, 8, none⟩ = some (.int .i64 e) := (D.2 8).1
  have l9 : w2.cell? ⟨w.heap.size, 9, none⟩ = some (.slice pv nv cv) := (D.2 9).1
  have l10 : w2.cell? ⟨w.heap.size, 10, none⟩ = some (.slice pg ng cg) := (D.2 10).1
  clear hW2
  go_wp2_with (fail)
  clear l7 l8 l9 l10
  refine (markReaderF_sh ps ns cs e pv nv cv pg ng cg xs xv xg Kb Kg k2 Ks Kv _ Ps Pv Pg s3 s4 s5 (by omega) (by omega) b2).mono ?_
  rintro z w3 ⟨rfl, hW3⟩
  replace D := D.pastW hW3 (Or.inr (by omega))
  replace Pw := Pw.past hW3 (by omega)
  replace Pz := Pz.past hW3 (by omega)
  have V3 := V2.trans (hW3.wide (lo' := lo) (hi' := hi) (by omega) (by omega))
  clear V2 y2
  have y3 := V3.size
  rw [show k2 + (ns + costF xv + costF xg) = k3 from hk3.out.symm]
  have l11 : w3.cell? ⟨w.heap.size, 11, none⟩ = some (.slice pw nw cw) := (D.2 11).1
  clear hW3
  go_wp2_with (fail)
  clear l11
  refine (markWireS_sh Kg Kw pw nw cw k3 xw _ (by omega) b3 Pw).mono ?_
  rintro z w4 ⟨rfl, hW4⟩
  replace D := D.pastW hW4 (Or.inr (by omega))
  replace Pz := Pz.past hW4 (by omega)
  have V4 := V3.trans (hW4.wide (lo' := lo) (hi' := hi) (by omega) (by omega))
  clear V3 y3
  have y4 := V4.size
  rw [show k3 + costF xw = k4 from hk4.out.symm]
  have l12 : w4.cell? ⟨w.heap.size, 12, none⟩ = some (.slice pz nz cz) := (D.2 12).1
  clear hW4
  go_wp2_with (fail)
  clear l12
  refine (markSentS_sh Kw hi pz nz cz k4 xz _ (by omega) b4 Pz).mono ?_
  rintro z w5 ⟨rfl, hW5⟩
  replace D := D.pastW hW5 (Or.inr (by omega))
  have V5 := V4.trans (hW5.wide (lo' := lo) (hi' := hi) (by omega) (by omega))
  clear V4 y4
  have y5 := V5.size
  rw [show k4 + costF xz = k5 from hk5.out.symm]
  clear hW5
  go_wp2_with (fail)
  go_ret
  exact ⟨rfl, V5⟩

end Go.Proofs.YthfnechcddmjkaaGreatDoor

namespace Go.Proofs.YthfnechcddmjkaaGreatDoor
open Go.ChangeShapes Go.WideShapes Go.ChangeAt Go.RowKit
set_option maxRecDepth 100000

section
variable {H : Type} {enc : TypeId × Value → H} {w : World} {base : Nat} {spare : Nat → Bool} {held : Bool}

theorem recs_open {fuel : Nat} {v : Value} {y : DataW H × List MemPlace} (LT ET : TypeId) (c : Nat) (Sh : Rc → Prop) (hLT : Tryz.prog.underlying LT = some (.slice ET)) (hC : Tryz.prog.cellsOf ET = c) (hpos : ∀ x, Sh x → 0 < x.length)
    (hel : ∀ (fu : Nat) (cs : List Value) (z : DataW H × List MemPlace), DataW.trod enc Tryz.prog w base spare held fu ET cs = some z → cs.length = c → ∃ x : Rc, cs = Rc.vals x ∧ (∀ f ∈ x, f.A w) ∧ Sh x)
    (h : DataW.trod enc Tryz.prog w base spare held fuel LT [v] = some y) : ∃ p n c' xs, v = .slice p n c' ∧ RecA w c Sh p n xs := by
  rcases Go.Deep.open_slice hLT h with ⟨hcs, _⟩ | ⟨a, len, cap, m, fu, D, Pl, hcs, _, hl, hm, hmm, _, hel'⟩
  · simp only [List.cons.injEq, and_true] at hcs
    subst hcs
    exact ⟨none, 0, 0, [], rfl, RecA.nil _ _ _ _⟩
  · simp only [List.cons.injEq, and_true] at hcs
    subst hcs
    have hlm : len ≤ m := by rw [hmm]; split <;> omega
    have each : ∀ i, i < len → ∃ x : Rc, (∀ j v, (Rc.vals x)[j]? = some v → w.cell? (a.add (i * c + j)) = some v) ∧ (∀ f ∈ x, f.A w) ∧ Sh x := by
      intro i hi
      obtain ⟨cs', hc, ht⟩ := hel' i (by omega)
      rw [hC] at hc
      have hsz := (World.cells?_some hc).2.1
      obtain ⟨x, hx, ok, sh⟩ := hel _ cs' _ ht hsz
      refine ⟨x, fun j v hv => ?_, ok, sh⟩
      rw [← hx] at hv
      have hj : j < c := by
        have := (List.getElem?_eq_some_iff.1 hv).1
        omega
      rw [← Go.Deep.add_add, (World.cells?_some hc).2.2 j hj]
      exact hv
    obtain ⟨f, hf⟩ := Go.Deep.choose_lt each
    have e : ∀ i, i < len → ((List.range len).map f).getD i [] = f i := fun i hi => by simp [List.getD_eq_getElem?_getD, hi]
    refine ⟨some a, len, cap, (List.range len).map f, rfl, by unfold maxLen at hm; omega, by simp, ?_, ?_, ?_⟩
    · intro hn
      obtain ⟨b, off, spot⟩ := a
      obtain ⟨u, hu⟩ : ∃ u, (Rc.vals (f 0))[0]? = some u := ⟨_, List.getElem?_eq_getElem (by rw [Rc.vals, List.length_map]; exact hpos _ (hf 0 hn).2.2)⟩
      have h0 := (hf 0 hn).1 0 _ hu
      have hsp : spot = none := by simpa [Addr.add] using World.cell?_spot h0
      subst hsp
      refine ⟨b, off, rfl, fun i j v hi hv => ?_⟩
      rw [e i hi] at hv
      have := (hf i hi).1 j v hv
      rw [Addr.add_lit] at this
      rw [← this, Nat.add_assoc]
    · intro x hx g hg
      obtain ⟨i, hi, rfl⟩ := List.mem_map.1 hx
      exact (hf i (List.mem_range.1 hi)).2.1 g hg
    · intro x hx
      obtain ⟨i, hi, rfl⟩ := List.mem_map.1 hx
      exact (hf i (List.mem_range.1 hi)).2.2

theorem k_bool : Tryz.prog.cellsOf 4 = 1 := by kernel_rfl
theorem k_string : Tryz.prog.cellsOf 9 = 1 := by kernel_rfl
theorem k_int : Tryz.prog.cellsOf 3 = 1 := by kernel_rfl
theorem k_bytes : Tryz.prog.cellsOf 22 = 1 := by kernel_rfl
theorem k_rows : Tryz.prog.cellsOf 26 = 1 := by kernel_rfl
theorem k_items : Tryz.prog.cellsOf 40 = 1 := by kernel_rfl
theorem k_wires : Tryz.prog.cellsOf 44 = 1 := by kernel_rfl
theorem k_sents : Tryz.prog.cellsOf 45 = 1 := by kernel_rfl
theorem k_item : Tryz.prog.cellsOf 104 = 4 := by kernel_rfl
theorem k_post : Tryz.prog.cellsOf 42 = 4 := by kernel_rfl
theorem k_reader : Tryz.prog.cellsOf 43 = 4 := by kernel_rfl
theorem item_el (fu : Nat) (cs : List Value) (z : DataW H × List MemPlace) (h : DataW.trod enc Tryz.prog w base spare held fu 104 cs = some z) (hl : cs.length = 4) : ∃ x : Rc, cs = Rc.vals x ∧ (∀ f ∈ x, f.A w) ∧ ItemSh x := by
  obtain ⟨y0, y1, y2, y3, n, _, _, h0, h1, h2, h3⟩ := Go.Joins.trod_struct4 Tryz.underlying104 h
  obtain ⟨c0, c1, c2, c3, rfl⟩ : ∃ c0 c1 c2 c3, cs = [c0, c1, c2, c3] := by
    match cs, hl with
    | [c0, c1, c2, c3], _ => exact ⟨c0, c1, c2, c3, rfl⟩
  obtain ⟨x, hx, ok⟩ := item_cells (by simpa [k_string] using h0) (by simpa [k_int] using h1) (by simpa [k_int] using h2) (by simpa [k_bytes] using h3)
  refine ⟨[.s x.s, .i x.t, .i x.d, .r ⟨x.p, x.n, x.c, x.xs⟩], hx, fun f hf => ?_, ⟨_, _, _, _, rfl⟩⟩
  simp only [List.mem_cons, List.not_mem_nil, or_false] at hf
  rcases hf with rfl | rfl | rfl | rfl
  · exact ok.hs
  · exact ok.ht
  · exact ok.hd
  · exact ⟨ok.hn, ok.len, ok.bytes, ok.byte⟩
theorem row_el (fu : Nat) (cs : List Value) (z : DataW H × List MemPlace) (h : DataW.trod enc Tryz.prog w base spare held fu 22 cs = some z) (hl : cs.length = 1) : ∃ x : Rc, cs = Rc.vals x ∧ (∀ f ∈ x, f.A w) ∧ RowSh x := by
  obtain ⟨c0, rfl⟩ : ∃ c0, cs = [c0] := by
    match cs, hl with
    | [c0], _ => exact ⟨c0, rfl⟩
  obtain ⟨x, rfl, ok⟩ := row_cells h
  refine ⟨[.r x], rfl, fun f hf => ?_, ⟨_, rfl⟩⟩
  rw [List.mem_singleton] at hf
  subst hf
  exact ok
theorem sent_el (fu : Nat) (cs : List Value) (z : DataW H × List MemPlace) (h : DataW.trod enc Tryz.prog w base spare held fu 108 cs = some z) (hl : cs.length = 4) : ∃ x : Rc, cs = Rc.vals x ∧ (∀ f ∈ x, f.A w) ∧ SentSh x := by
  obtain ⟨y0, y1, y2, y3, n, _, _, h0, h1, h2, h3⟩ := Go.Joins.trod_struct4 Tryz.underlying108 h
  obtain ⟨c0, c1, c2, c3, rfl⟩ : ∃ c0 c1 c2 c3, cs = [c0, c1, c2, c3] := by
    match cs, hl with
    | [c0, c1, c2, c3], _ => exact ⟨c0, c1, c2, c3, rfl⟩
  obtain ⟨s, e0, _, hs⟩ := DataW.trod_string Tryz.underlying9 (show DataW.trod enc Tryz.prog w base spare held n 9 [c0] = some y0 by simpa [k_string] using h0)
  obtain ⟨t, e1, _, ht⟩ := DataW.trod_int Tryz.underlying3 (show DataW.trod enc Tryz.prog w base spare held n 3 [c1] = some y1 by simpa [k_int] using h1)
  obtain ⟨a, e2, oka⟩ := row_cells (show DataW.trod enc Tryz.prog w base spare held n 22 [c2] = some y2 by simpa [k_bytes] using h2)
  obtain ⟨b, e3, okb⟩ := row_cells (show DataW.trod enc Tryz.prog w base spare held n 22 [c3] = some y3 by simpa [k_bytes] using h3)
  simp only [List.cons.injEq, and_true] at e0 e1
  subst e0 e1 e2 e3
  refine ⟨[.s s, .i t, .r a, .r b], rfl, fun f hf => ?_, ⟨_, _, _, _, rfl⟩⟩
  simp only [List.mem_cons, List.not_mem_nil, or_false] at hf
  rcases hf with rfl | rfl | rfl | rfl
  · exact (show s.size ≤ 9223372036854775807 by unfold maxLen at hs; omega)
  · exact bounds_i64 ht
  · exact oka
  · exact okb
theorem wire_el (fu : Nat) (cs : List Value) (z : DataW H × List MemPlace) (h : DataW.trod enc Tryz.prog w base spare held fu 106 cs = some z) (hl : cs.length = 6) : ∃ x : Rc, cs = Rc.vals x ∧ (∀ f ∈ x, f.A w) ∧ WireSh x := by
  obtain ⟨y0, y1, y2, n, _, _, h0, h1, h2⟩ := Go.Deep.trod_struct3 Tryz.underlying106 h
  obtain ⟨c0, c1, c2, c3, c4, c5, rfl⟩ : ∃ c0 c1 c2 c3 c4 c5, cs = [c0, c1, c2, c3, c4, c5] := by
    match cs, hl with
    | [c0, c1, c2, c3, c4, c5], _ => exact ⟨c0, c1, c2, c3, c4, c5, rfl⟩
  obtain ⟨x, hx, ok, sx⟩ := item_el _ [c1, c2, c3, c4] y1 (by simpa [k_item] using h1) rfl
  obtain ⟨tp, e0, _⟩ := DataW.trod_bool Tryz.underlying4 (show DataW.trod enc Tryz.prog w base spare held n 4 [c0] = some y0 by simpa [k_bool] using h0)
  obtain ⟨b, e5, okb⟩ := row_cells (show DataW.trod enc Tryz.prog w base spare held n 22 [c5] = some y2 by simpa [k_bytes] using h2)
  obtain ⟨s, t, d, a, rfl⟩ := sx
  simp only [List.cons.injEq, and_true] at e0
  subst e0 e5
  have e : [Value.bool tp, c1, c2, c3, c4, b.val] = Rc.vals [.b tp, .s s, .i t, .i d, .r a, .r b] := by
    have := congrArg (fun l => Value.bool tp :: (l ++ [b.val])) hx
    simpa [Rc.vals, Fd.val, RwA.val] using this
  refine ⟨_, e, fun f hf => ?_, ⟨_, _, _, _, _, _, rfl⟩⟩
  simp only [List.mem_cons, List.not_mem_nil, or_false] at hf
  rcases hf with rfl | rfl | rfl | rfl | rfl | rfl
  · trivial
  · exact ok _ (by simp)
  · exact ok _ (by simp)
  · exact ok _ (by simp)
  · exact ok _ (by simp)
  · exact okb

theorem post_el (fu : Nat) (c0 c1 c2 c3 : Value) (z : DataW H × List MemPlace) (h : DataW.trod enc Tryz.prog w base spare held fu 42 [c0, c1, c2, c3] = some z) :
    ∃ pq nq cq xq t pb nb cb xb u, [c0, c1, c2, c3] = [.slice pq nq cq, .int .i64 t, .slice pb nb cb, .int .i64 u] ∧ RecA w 4 ItemSh pq nq xq ∧ RwA.Ok w ⟨pb, nb, cb, xb⟩ := by
  obtain ⟨y0, y1, y2, y3, n, _, _, h0, h1, h2, h3⟩ := Go.Joins.trod_struct4 Tryz.underlying42 h
  obtain ⟨p, m, c, xs, e0, okq⟩ := recs_open 40 104 4 ItemSh Tryz.underlying40 k_item (fun x hx => by rw [item_len x hx]; omega) item_el (show DataW.trod enc Tryz.prog w base spare held n 40 [c0] = some y0 by simpa [k_items] using h0)
  obtain ⟨t, e1, _, _⟩ := DataW.trod_int Tryz.underlying3 (show DataW.trod enc Tryz.prog w base spare held n 3 [c1] = some y1 by simpa [k_int] using h1)
  obtain ⟨b, e2, okb⟩ := row_cells (show DataW.trod enc Tryz.prog w base spare held n 22 [c2] = some y2 by simpa [k_bytes] using h2)
  obtain ⟨u, e3, _, _⟩ := DataW.trod_int Tryz.underlying3 (show DataW.trod enc Tryz.prog w base spare held n 3 [c3] = some y3 by simpa [k_int] using h3)
  simp only [List.cons.injEq, and_true] at e1 e3
  subst e0 e1 e2 e3
  exact ⟨p, m, c, xs, t, b.p, b.n, b.c, b.xs, u, rfl, okq, okb⟩
theorem reader_el (fu : Nat) (c0 c1 c2 c3 : Value) (z : DataW H × List MemPlace) (h : DataW.trod enc Tryz.prog w base spare held fu 43 [c0, c1, c2, c3] = some z) :
    ∃ ps ns cs xs e pv nv cv xv pg ng cg xg, [c0, c1, c2, c3] = [.slice ps ns cs, .int .i64 e, .slice pv nv cv, .slice pg ng cg] ∧ RwA.Ok w ⟨ps, ns, cs, xs⟩ ∧ RecA w 1 RowSh pv nv xv ∧ RecA w 1 RowSh pg ng xg := by
  obtain ⟨y0, y1, y2, y3, n, _, _, h0, h1, h2, h3⟩ := Go.Joins.trod_struct4 Tryz.underlying43 h
  obtain ⟨s, e0, oks⟩ := row_cells (show DataW.trod enc Tryz.prog w base spare held n 22 [c0] = some y0 by simpa [k_bytes] using h0)
  obtain ⟨e, e1, _, _⟩ := DataW.trod_int Tryz.underlying3 (show DataW.trod enc Tryz.prog w base spare held n 3 [c1] = some y1 by simpa [k_int] using h1)
  obtain ⟨p, m, c, xs, e2, okv⟩ := recs_open 26 22 1 RowSh Tryz.underlying26 k_bytes (fun x hx => by rw [row_len x hx]; omega) row_el (show DataW.trod enc Tryz.prog w base spare held n 26 [c2] = some y2 by simpa [k_rows] using h2)
  obtain ⟨q, k, d, ys, e3, okg⟩ := recs_open 26 22 1 RowSh Tryz.underlying26 k_bytes (fun x hx => by rw [row_len x hx]; omega) row_el (show DataW.trod enc Tryz.prog w base spare held n 26 [c3] = some y3 by simpa [k_rows] using h3)
  simp only [List.cons.injEq, and_true] at e1
  subst e0 e1 e2 e3
  exact ⟨s.p, s.n, s.c, s.xs, e, p, m, c, xs, q, k, d, ys, rfl, oks, okv, okg⟩
theorem array13 (a : Array Value) (h : a.size = 13) : ∃ c0 c1 c2 c3 c4 c5 c6 c7 c8 c9 d0 d1 d2, a = #[c0, c1, c2, c3, c4, c5, c6, c7, c8, c9, d0, d1, d2] := by
  obtain ⟨l⟩ := a
  match l, h with
  | [c0, c1, c2, c3, c4, c5, c6, c7, c8, c9, d0, d1, d2], _ => exact ⟨c0, c1, c2, c3, c4, c5, c6, c7, c8, c9, d0, d1, d2, rfl⟩

structure WorldIn (w : World) (v : Value) (pj : Option Addr) (nj cj : Nat) (cn kn : Int) (pq : Option Addr) (nq cq : Nat) (t : Int) (pb : Option Addr) (nb cb : Nat) (u : Int) (ps : Option Addr) (ns cs : Nat) (e : Int) (pv : Option Addr) (nv cv : Nat) (pg : Option Addr) (ng cg : Nat) (pw : Option Addr) (nw cw : Nat) (pz : Option Addr) (nz cz : Nat) (xj : List Int) (xq : List Rc) (xb xs : List Int) (xv xg xw xz : List Rc) : Prop where
  val : v = .agg #[.slice pj nj cj, .int .i64 cn, .int .i64 kn, .slice pq nq cq, .int .i64 t, .slice pb nb cb, .int .i64 u, .slice ps ns cs, .int .i64 e, .slice pv nv cv, .slice pg ng cg, .slice pw nw cw, .slice pz nz cz]
  count : -9223372036854775808 ≤ cn ∧ cn ≤ 9223372036854775807
  okj : RwA.Ok w ⟨pj, nj, cj, xj⟩
  okq : RecA w 4 ItemSh pq nq xq
  okb : RwA.Ok w ⟨pb, nb, cb, xb⟩
  oks : RwA.Ok w ⟨ps, ns, cs, xs⟩
  okv : RecA w 1 RowSh pv nv xv
  okg : RecA w 1 RowSh pg ng xg
  okw : RecA w 6 WireSh pw nw xw
  okz : RecA w 4 SentSh pz nz xz
theorem world_open {b0 : Nat} {r : Reach} {v : Value} {dt : DataW H} {pl : List MemPlace} (hv : Value.okWide Tryz.prog w r b0 47 v) (h : DataW.Trod enc Tryz.prog w base spare held 47 v dt pl) :
    ∃ pj nj cj cn kn pq nq cq t pb nb cb u ps ns cs e pv nv cv pg ng cg pw nw cw pz nz cz xj xq xb xs xv xg xw xz, WorldIn w v pj nj cj cn kn pq nq cq t pb nb cb u ps ns cs e pv nv cv pg ng cg pw nw cw pz nz cz xj xq xb xs xv xg xw xz := by
  obtain ⟨ar, rfl, hsz⟩ := okWide_struct Tryz.underlying47 hv
  have hC : Tryz.prog.cellsOf 47 = 13 := by kernel_rfl
  obtain ⟨c0, c1, c2, c3, c4, c5, c6, c7, c8, c9, d0, d1, d2, rfl⟩ := array13 ar (hsz.trans hC)
  obtain ⟨fuel, hf⟩ := h
  obtain ⟨ys, n, _, _, _, hlen, hfl⟩ := DataW.trod_struct Tryz.underlying47 hf
  obtain ⟨y0, y1, y2, y3, y4, y5, y6, rfl⟩ : ∃ y0 y1 y2 y3 y4 y5 y6, ys = [y0, y1, y2, y3, y4, y5, y6] := by
    match ys, hlen with
    | [y0, y1, y2, y3, y4, y5, y6], _ => exact ⟨y0, y1, y2, y3, y4, y5, y6, rfl⟩
  obtain ⟨j, e0, okj⟩ := row_cells (show DataW.trod enc Tryz.prog w base spare held n 22 [c0] = some y0 by simpa [k_bytes, Value.cells] using hfl 0 _ rfl)
  obtain ⟨cn, e1, _, h1⟩ := DataW.trod_int Tryz.underlying3 (show DataW.trod enc Tryz.prog w base spare held n 3 [c1] = some y1 by simpa [k_int, Value.cells] using hfl 1 _ rfl)
  obtain ⟨kn, e2, _, _⟩ := DataW.trod_int Tryz.underlying3 (show DataW.trod enc Tryz.prog w base spare held n 3 [c2] = some y2 by simpa [k_int, Value.cells] using hfl 2 _ rfl)
  obtain ⟨pq, nq, cq, xq, t, pb, nb, cb, xb, u, e3, okq, okb⟩ := post_el n c3 c4 c5 c6 y3 (by simpa [k_post, Value.cells] using hfl 3 _ rfl)
  obtain ⟨ps, ns, cs, xs, e, pv, nv, cv, xv, pg, ng, cg, xg, e4, oks, okv, okg⟩ := reader_el n c7 c8 c9 d0 y4 (by simpa [k_reader, Value.cells] using hfl 4 _ rfl)
  obtain ⟨pw, nw, cw, xw, e5, okw⟩ := recs_open 44 106 6 WireSh Tryz.underlying44 (by kernel_rfl) (fun x hx => by rw [wire_len x hx]; omega) wire_el (show DataW.trod enc Tryz.prog w base spare held n 44 [d1] = some y5 by simpa [k_wires, Value.cells] using hfl 5 _ rfl)
  obtain ⟨pz, nz, cz, xz, e6, okz⟩ := recs_open 45 108 4 SentSh Tryz.underlying45 (by kernel_rfl) (fun x hx => by rw [sent_len x hx]; omega) sent_el (show DataW.trod enc Tryz.prog w base spare held n 45 [d2] = some y6 by simpa [k_sents, Value.cells] using hfl 6 _ rfl)
  simp only [List.cons.injEq, and_true] at e1 e2 e3 e4
  obtain ⟨e31, e32, e33, e34⟩ := e3
  obtain ⟨e41, e42, e43, e44⟩ := e4
  subst e0 e1 e2 e31 e32 e33 e34 e41 e42 e43 e44 e5 e6
  exact ⟨j.p, j.n, j.c, cn, kn, pq, nq, cq, t, pb, nb, cb, u, ps, ns, cs, e, pv, nv, cv, pg, ng, cg, pw, nw, cw, pz, nz, cz, j.xs, xq, xb, xs, xv, xg, xw, xz, rfl, bounds_i64 h1, okj, okq, okb, oks, okv, okg, okw, okz⟩
end

end Go.Proofs.YthfnechcddmjkaaGreatDoor
