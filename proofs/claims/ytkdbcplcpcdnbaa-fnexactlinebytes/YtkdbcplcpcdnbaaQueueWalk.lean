/-
  What the laws of lists of items that are answered are told. Conditions: none beyond each fact's own.
-/
import Derived.Test.YtkdbcplcpcdnbaaItemsLaw
import Derived.Test.YtkdbcplcpcdnbaaMarkItems
namespace Go.Proofs.Ytkdbcplcpcdnbaa
open Go.RowKit
set_option maxRecDepth 100000

abbrev Con := ByteArray × Int × Int × List Int
def conN (c : Con) : Nat := c.2.2.2.length
theorem sub_sum {l m : List Nat} (h : l.Sublist m) : l.sum ≤ m.sum := by
  induction h with
  | slnil => exact Nat.le_refl _
  | cons a _ ih => rw [List.sum_cons]; omega
  | cons_cons a _ ih => rw [List.sum_cons, List.sum_cons]; omega
theorem mem_sum {l : List Con} {c : Con} (h : c ∈ l) : conN c ≤ (l.map conN).sum := by
  induction l with
  | nil => simp at h
  | cons a r ih =>
    rw [List.map_cons, List.sum_cons]
    rcases List.mem_cons.1 h with rfl | h
    · omega
    · have := ih h; omega
theorem con_sum {w : World} {its : List ItA} (ok : ∀ x ∈ its, x.Ok w) (h : totI its ≤ 1048576) : ((its.map ItA.con).map conN).sum ≤ 1048576 := by
  refine Nat.le_trans ?_ h
  clear h
  induction its with
  | nil => simp
  | cons x r ih =>
    have e : totI (x :: r) = x.s.size + x.n + totI r := by simp [totI]
    have h1 : conN x.con = x.n := (ok x (by simp)).len
    have := ih (fun y hy => ok y (by simp [hy]))
    rw [List.map_cons, List.map_cons, List.sum_cons, e, h1]
    omega
theorem con_tot {w : World} {its : List ItA} (ok : ∀ x ∈ its, x.Ok w) : ((its.map ItA.con).map conN).sum ≤ totI its := by
  induction its with
  | nil => simp
  | cons x r ih =>
    have e : totI (x :: r) = x.s.size + x.n + totI r := by simp [totI]
    have h1 : conN x.con = x.n := (ok x (by simp)).len
    have := ih (fun y hy => ok y (by simp [hy]))
    rw [List.map_cons, List.map_cons, List.sum_cons, e, h1]
    omega
theorem one_small {e : Nat} {w : World} {lo hi : Nat} {x : ItA} {XC : Con} (h : Own e w lo hi x.slice x.n x.xs) (hx : Hid (x.con = XC)) (hX : conN XC ≤ 1048576) : x.n ≤ 1048576 := by
  have h1 := h.len
  have h2 : conN x.con = conN XC := congrArg conN hx.out
  have h3 : conN x.con = x.xs.length := rfl
  omega
theorem list_small {its : List ItA} {LC : List Con} (e : Hid (its.map ItA.con = LC)) (h : (LC.map conN).sum ≤ 1048576) : ∀ x ∈ its, x.xs.length ≤ 1048576 := fun x hx => by
  have h1 : x.con ∈ LC := by rw [← e.out]; exact List.mem_map.2 ⟨x, hx, rfl⟩
  have h2 := mem_sum h1
  have h3 : conN x.con = x.xs.length := rfl
  omega
theorem mk_small {w : World} {lo hi : Nat} {v : Value} {n : Nat} {its : List ItA} {LC : List Con} {k : Nat} (h : OwnItems w lo hi v n its) (e : Hid (its.map ItA.con = LC)) (hs : (LC.map conN).sum ≤ 1048576) (hn : n ≤ 1048577) (hk : k ≤ 1048577) : mkK k its ≤ 100000000 := by
  have e2 : its.map ItA.n = LC.map conN := by
    rw [← e.out, List.map_map]
    exact List.map_congr_left fun x hx => ((h.bytes x hx).len).symm
  rw [mkK_le, h.len, e2]
  omega
theorem con_four {x y : ItA} {C : Con} (hx : Hid (x.con = C)) (hy : Hid (y.con = C)) : x.s = y.s ∧ x.t = y.t ∧ x.d = y.d ∧ x.xs = y.xs := by
  have e := hx.out.trans hy.out.symm
  simp only [ItA.con, Prod.mk.injEq] at e
  exact e
theorem OwnItems.cap {w : World} {lo hi : Nat} {p : Option Addr} {n c : Nat} {its : List ItA} (h : OwnItems w lo hi (.slice p n c) n its) : n ≤ c := by
  rcases h.row.2 with ⟨hv, hn⟩ | ⟨g, cap, cur, hv, _, _, hc, _⟩
  · omega
  · simp only [Value.slice.injEq] at hv
    omega
theorem Cells.past13 {lo hi g : Nat} {w w' : World} {A : Array Value} (h : Cells w g A) (hw : Within lo hi w w') (hd : g < lo ∨ hi ≤ g) : Cells w' g A := by
  have e := hw.block g h.1 hd
  exact ⟨Nat.lt_of_lt_of_le h.1 hw.size, fun i => ⟨(World.cell?_of_block (w := w) e).trans (h.2 i).1, (World.frozen?_of_block (w := w) e).trans (h.2 i).2⟩⟩
theorem fits {w : World} {lo hi : Nat} {v : Value} {n : Nat} {its : List ItA} {LC : List Con} (h : OwnItems w lo hi v n its) (e : Hid (its.map ItA.con = LC)) (hs : (LC.map conN).sum ≤ 1048576) : ∀ x ∈ its, x.n ≤ 1048576 := fun x hx => by
  have h1 := list_small e hs x hx
  have h2 := (h.bytes x hx).len
  omega
theorem mkI_bytes {w : World} {lo hi : Nat} {v : Value} {n : Nat} {its : List ItA} (h : OwnItems w lo hi v n its) : ∀ x ∈ its, BytesIn w x.p x.n x.xs := fun x hx => by
  have hb : Own 5 w lo hi (.slice x.p x.n x.c) x.n x.xs := h.bytes x hx
  exact hb.bytes

end Go.Proofs.Ytkdbcplcpcdnbaa
