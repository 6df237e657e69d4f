/-
  The program's iterator over a list of rows, its marks, and what is among a list. Conditions: rows that can be read.
  The program's noneLonger and among: what they answer of any list of rows. Conditions: rows that can be read.
  Whether a reader is right, and whether it read a letter, as the program tells it. Conditions: a reader that can be read.
-/
import Derived.RangeFuncNested
import Derived.RangeFuncBound
import Derived.RangeFuncCalls
import Derived.RangeFuncLeaves
import Derived.Shelf.Abstract
import Derived.Shelf.RegionOpen
import Derived.OwnWalkIn
import Derived.TacticsInMore
import Derived.LoopNIn
import Derived.LoopIn
import Derived.Test.YthfnechcddmjkaaGreatDoorPar04
namespace Go.Proofs.YthfnechcddmjkaaGreatDoor
open Go.RowKit Go.Shelf
set_option maxRecDepth 100000

attribute [local go_sem] Oper.semAt_some

theorem buildMark (w : World) (s : ByteArray) : (Instr.build 195 #[(0, .string s)]).run Tryz.prog w = .ok (.agg #[.string s]) w := by kernel_rfl

set_option maxHeartbeats 2000000 in
theorem markOf_any (x : RwA) (w : World) (ok : x.Ok w) :
    Calls Tryz.prog 154 #[.slice x.p x.n x.c] w fun z w' => z = .returned (.agg #[.string (strOfNums x.xs)]) ∧ w' = w.alloc (.cells #[.string (strOfNums x.xs)] 195) := by
  obtain ⟨p, n, c, xs⟩ := x
  have g := fun X (b : Below w.heap.size w X) => text_of (P := Tryz.prog) (in_below ok.bytes b) ok.len c 22 5 9 Tryz.underlying22 Tryz.underlying5 Tryz.underlying9
  dsimp only at g ⊢
  obtain ⟨s, hs⟩ : ∃ s, strOfNums xs = s := ⟨_, rfl⟩
  rw [hs] at g ⊢
  have g1 := fun o => g _ (made_below w o (Below.refl _ _))
  have bm := buildMark
  clear g hs ok
  go_enter Tryz.func154, Tryz.ntmps154
  go_wp2_with (fail)
  refine bodyPost_ret (v := .agg #[.string s]) ?_ rfl ⟨rfl, rfl⟩
  simp only [results, Tryz.f154]
  go_simp

theorem told_any (p : Option Addr) (n c : Nat) (w : World) :
    Calls Tryz.prog 126 #[.slice p n c] w fun z w' => z = .returned (.func (.func 153) #[] #[.pointer (some ⟨w.heap.size, 0, none⟩)]) ∧ w' = w.alloc (.cells #[.slice p n c] 26) := by
  go_enter Tryz.func126, Tryz.ntmps126
  go_wp2_with (fail)
  go_ret
  exact ⟨rfl, rfl⟩

theorem attach_step {α : Type} {rs : List α} {k : Nat} (h : k < rs.length) : rs.attach.take (k + 1) = rs.attach.take k ++ [⟨rs[k], List.getElem_mem h⟩] := by
  rw [List.take_add_one, List.getElem?_eq_getElem (by simpa using h)]
  simp

set_option maxHeartbeats 2000000 in
theorem told_stops (m : Nat) (hm : 1 ≤ m) (Bn : Nat) (p : Option Addr) (n c : Nat) (rs : List RwA) (w0 w : World) (hBn : Bn < w.heap.size) (hc : w.cell? ⟨Bn, 0, none⟩ = some (.slice p n c)) (hR : Rows w0 p n rs) (hb : Below w0.heap.size w0 w) :
    SeqStopsK Fence.wide m Tryz.prog 153 #[.pointer (some ⟨Bn, 0, none⟩)] (fun x : { x // x ∈ rs } => #[x.1.val]) (Below w0.heap.size) (fun ys => ys = rs.attach) (fun pre => pre <+: rs.attach) n w := fun l J Jx W hW _ _ hY h0 => by
  have hcW : W.cell? ⟨Bn, 0, none⟩ = some (.slice p n c) := (hW.cell (p := ⟨Bn, 0, none⟩) hBn).trans hc
  have hbW : Below w0.heap.size w0 W := hb.trans (hW.mono hb.size)
  have hl := hR.len
  clear hc hW hb
  refine callsIn_of_wp Tryz.func153 rfl trivial ?_ rfl
  simp only [Tryz.ntmps153, List.size_toArray, List.length_cons, List.length_nil, Nat.reduceAdd, Nat.reduceSub, Array.replicate_succ, Array.replicate_zero, List.push_toArray, List.append_toArray, List.nil_append, List.cons_append]
  gi_wp2
  gi_loopw [7] (fun i wr => ∃ k : Nat, k ≤ n ∧ i = .int .i64 k ∧ J (rs.attach.take k) wr ∧ Below w0.heap.size w0 wr) (fun i _ => n - (intOf i).toNat)
  case atStart => exact ⟨0, Nat.zero_le _, rfl, by simpa using h0, hbW⟩
  case round =>
    obtain ⟨k, hk, rfl, hJs, hbel⟩ := hrel
    clear hcW hbW h0
    have hn := hR.hn
    by_cases hlt : k < n
    · have hlt' : k < rs.length := by omega
      obtain ⟨b, o, x, rfl, c0, hx, okx⟩ := (hR.on hbel).at hlt
      have hst := attach_step hlt'
      obtain ⟨y, hy⟩ : ∃ y : { x // x ∈ rs }, y = ⟨rs[k], List.getElem_mem hlt'⟩ := ⟨_, rfl⟩
      rw [← hy] at hst
      have hyx : y.1 = x := by rw [hy, ← hx, List.getD_eq_getElem?_getD, List.getElem?_eq_getElem hlt', Option.getD_some]
      obtain ⟨fn, tmps, assign, body, hyy, hRR⟩ := hY _ y wr hJs (by simp; omega)
      rw [hyx] at hyy
      obtain ⟨xp, xn, xc, xs⟩ := x
      dsimp only [RwA.val] at c0 hyy
      rw [← hst] at hRR
      clear hy hx okx hyx hst hY hJs
      gi_wp2
      refine hRR.mono ?_
      rintro e W3 (⟨rfl, hJ3, hk3⟩ | ⟨rfl, hJx3⟩)
      · have hbel3 := hbel.trans (hk3.mono (Nat.le_refl _))
        gi_wp2
        go_roundw
        case rel => exact ⟨k + 1, by omega, by go_num, hJ3, hbel3⟩
        case measure => simp [intOf]; omega
      · gi_wp2
        refine bodyPost_ret (results_none rfl _ _ _) rfl ?_
        exact ⟨⟨_, rfl⟩, .inr ⟨_, List.take_prefix _ _, hJx3⟩⟩
    · have hkn : k = n := by omega
      subst hkn
      gi_wp2
      go_end0
      exact ⟨⟨_, rfl⟩, .inl ⟨_, rfl, by rwa [List.take_of_length_le (by simp; omega)] at hJs⟩⟩

end Go.Proofs.YthfnechcddmjkaaGreatDoor

namespace Go.Proofs.YthfnechcddmjkaaGreatDoor
open Go.RowKit Go.Shelf
set_option maxRecDepth 100000

attribute [local go_sem] Oper.semAt_some

theorem cell_of_box_l {W : World} {B : Nat} {v : Value} {t : TypeId} (h : W.heap[B]? = some (.cells #[v] t (0, 0))) : W.cell? ⟨B, 0, none⟩ = some v ∧ W.frozen? ⟨B, 0, none⟩ = false := by
  constructor <;> simp [World.cell?, World.frozen?, h]
theorem cell_new_l (W : World) (v : Value) (t : TypeId) : (W.alloc (.cells #[v] t)).cell? ⟨W.heap.size, 0, none⟩ = some v ∧ (W.alloc (.cells #[v] t)).frozen? ⟨W.heap.size, 0, none⟩ = false :=
  cell_of_box_l (World.alloc_heap_new W _)
theorem cell_alloc_l {W : World} {a : Addr} {v : Value} (o : Obj) (h : W.cell? a = some v) : (W.alloc o).cell? a = some v := cell_kept h (World.grownBy_alloc W o none) (fun r e => by cases e)
theorem frozen_alloc_l {W : World} {a : Addr} {v : Value} (o : Obj) (h : W.cell? a = some v) (hf : W.frozen? a = false) : (W.alloc o).frozen? a = false := (frozen_kept h (World.grownBy_alloc W o none) (fun r e => by cases e)).trans hf

def AllT {rs : List RwA} (t : RwA → Prop) (pre : List { x // x ∈ rs }) : Prop := ∀ y ∈ pre, t y.1
def SomeT {rs : List RwA} (t : RwA → Prop) (pre : List { x // x ∈ rs }) : Prop := ∃ y ∈ pre, t y.1
theorem AllT.nil {rs : List RwA} (t : RwA → Prop) : AllT t ([] : List { x // x ∈ rs }) := fun y hy => by simp at hy
theorem AllT.step {rs : List RwA} {t : RwA → Prop} {pre : List { x // x ∈ rs }} (h : AllT t pre) {x : RwA} (hx : x ∈ rs) (k : t x) : AllT t (pre ++ [⟨x, hx⟩]) := fun y hy =>
  (List.mem_append.1 hy).elim (h y) (fun e => by obtain rfl := List.mem_singleton.1 e; exact k)
theorem SomeT.last {rs : List RwA} {t : RwA → Prop} (pre : List { x // x ∈ rs }) {x : RwA} (hx : x ∈ rs) (k : t x) : SomeT t (pre ++ [⟨x, hx⟩]) := ⟨_, List.mem_append.2 (.inr (List.mem_singleton.2 rfl)), k⟩
theorem AllT.all {rs : List RwA} {t : RwA → Prop} (h : AllT t rs.attach) : ∀ x ∈ rs, t x := fun x hx => h ⟨x, hx⟩ (List.mem_attach _ _)
theorem SomeT.some {rs : List RwA} {t : RwA → Prop} {pre : List { x // x ∈ rs }} (h : SomeT t pre) : ∃ x ∈ rs, t x := let ⟨y, _, k⟩ := h; ⟨y.1, y.2, k⟩
def noneB (rs : List RwA) (m : Int) : Bool := decide (∀ x ∈ rs, (x.n : Int) ≤ m)

set_option maxHeartbeats 4000000 in
theorem noneLonger_any (p : Option Addr) (n c : Nat) (rs : List RwA) (m : Int) (w : World) (hR : Rows w p n rs) :
    Calls Tryz.prog 103 #[.slice p n c, .int .i64 m] w fun z w' => z = .returned (.bool (noneB rs m)) ∧ Below w.heap.size w w' := by
  refine (callsIn_wide (n := 3)).1 ?_
  refine callsIn_of_wp_marks Tryz.func103 rfl trivial ?_ rfl
  simp only [Tryz.ntmps103, List.size_toArray, List.length_cons, List.length_nil, Nat.reduceAdd, Nat.reduceSub, Array.replicate_succ, Array.replicate_zero, List.push_toArray, List.append_toArray, List.nil_append, List.cons_append]
  gi_wp2_with (refine ⟨trivial, ?_⟩; gi_at_call 126; refine (callsIn_wide.2 (told_any _ _ _ _)).mono ?_; rintro e w' ⟨rfl, rfl⟩)
  have c0 := cell_new_l w (.int .i64 m) 3
  have c1 := cell_new_l (w.alloc (.cells #[.int .i64 m] 3)) (.bool false) 4
  have c2 := cell_new_l ((w.alloc (.cells #[.int .i64 m] 3)).alloc (.cells #[.bool false] 4)) (.slice p n c) 26
  simp only [World.size_alloc] at c1 c2
  have hB0 : Below w.heap.size w (((w.alloc (.cells #[.int .i64 m] 3)).alloc (.cells #[.bool false] 4)).alloc (.cells #[.slice p n c] 26)) := (((Below.refl _ w).alloc (Nat.le_refl _) _).alloc (by simp) _).alloc (by simp; omega) _
  refine wpIn_rangeFunc_ownF rfl (by omega) (gf := 153) (lb := #[.pointer (some ⟨w.heap.size + 1 + 1, 0, none⟩)]) rfl trivial (enters_of Tryz.func153 (by kernel_rfl) rfl)
    (told_stops _ (by omega) (w.heap.size + 1 + 1) p n c rs w _ (by simp) c2.1 hR hB0) belowK_t (belowK_b (by simp; omega)) (Below.refl _ _) (fun _ => rfl)
    (fun pre W => (AllT (fun y => (y.n : Int) ≤ m) pre ∧ W.cell? ⟨w.heap.size, 0, none⟩ = some (.int .i64 m) ∧ W.cell? ⟨w.heap.size + 1, 0, none⟩ = some (.bool false) ∧ W.frozen? ⟨w.heap.size + 1, 0, none⟩ = false) ∧ Below w.heap.size w W)
    (fun c pre W => (c = .ret ∧ SomeT (fun y => m < (y.n : Int)) pre ∧ W.cell? ⟨w.heap.size + 1, 0, none⟩ = some (.bool false)) ∧ Below w.heap.size w W)
    (OwnFrom.and (Go.Own.from (fun s A B row hs hg hr => ⟨hs.1, cell_kept hs.2.1 hg hr, cell_kept hs.2.2.1 hg hr, (frozen_kept hs.2.2.1 hg hr).trans hs.2.2.2⟩) _) (ownFrom_below (Nat.le_refl _) (by simp; omega)))
    (fun c => OwnFrom.and (Go.Own.from (fun s A B row hs hg hr => ⟨hs.1, hs.2.1, cell_kept hs.2.2 hg hr⟩) _) (ownFrom_below (Nat.le_refl _) (by simp; omega)))
    ⟨⟨AllT.nil _, cell_alloc_l _ (cell_alloc_l _ c0.1), cell_alloc_l _ c1.1, frozen_alloc_l _ c1.1 c1.2⟩, hB0⟩
    (fun x => { tmps := #[.slice p n c, .int .i64 m, undef, .pointer (some ⟨w.heap.size, 0, none⟩), .pointer (some ⟨w.heap.size + 1, 0, none⟩), .slice x.1.p x.1.n x.1.c, .slice p n c, .func (.func 153) #[] #[.pointer (some ⟨w.heap.size + 1 + 1, 0, none⟩)], .slice x.1.p x.1.n x.1.c, undef, undef, undef, undef], defers := [] }) ?assign ?body ?done ?stop
  case assign =>
    intro l x W K hK
    gi_wp2
    exact hK
  case body =>
    rintro l pre ⟨⟨xp, xn, xc, xs⟩, hx⟩ W ⟨⟨hp, hcw, hcr, hfr⟩, hB⟩ _
    have okx := (hR.ok _ hx).hn
    dsimp only at okx ⊢
    gi_wp2
    · rename_i hx
      exact ⟨KeepsOthers.setCell _ _ _, ⟨rfl, SomeT.last _ _ (by show m < (xn : Int); omega), World.cell?_setCell_same' _ _ _ (by rw [hcr]; rfl)⟩, hB.setCell (p := ⟨w.heap.size + 1, 0, none⟩) (by simp) _⟩
    · rename_i hx
      exact ⟨KeepsOthers.refl _, Below.refl _ _, ⟨hp.step _ (by show (xn : Int) ≤ m; omega), hcw, hcr, hfr⟩, hB⟩
  case done =>
    rintro D ys W hD rfl ⟨⟨hne, _, hcr, hfr⟩, hB⟩ hK
    gi_wp2
    have hK' := (KeepsOthers.setCell W ⟨w.heap.size + 1, 0, none⟩ (.bool true)).same D _ hK rfl
    refine ⟨by simp, .inl ⟨_, _, rfl, run_takeDeferred hK', ?_⟩⟩
    have hc5 := cell_kept (World.cell?_setCell_same' W ⟨w.heap.size + 1, 0, none⟩ (.bool true) (by rw [hcr]; rfl)) (grownBy_putObj' _ D (.deferred none)) (fun r e => by cases e; exact ⟨_, hK', rfl⟩)
    refine ⟨.bool true, ?_, by rw [show noneB rs m = true from decide_eq_true hne.all], (hB.setCell (p := ⟨w.heap.size + 1, 0, none⟩) (by simp) _).trans (belowK_b (w := w) (Nat.le_refl _) _ D _ _ (by simp at hD; omega) hK' rfl rfl)⟩
    simp [results, Tryz.f103, go_sem, hc5]
  case stop =>
    rintro D c pre W hD hpre ⟨⟨rfl, hin, hcr⟩, hB⟩ hK
    gi_wp2
    refine ⟨by simp, .inl ⟨_, _, rfl, run_takeDeferred hK, ?_⟩⟩
    have hc5 := cell_kept hcr (grownBy_putObj' _ D (.deferred none)) (fun r e => by cases e; exact ⟨_, hK, rfl⟩)
    refine ⟨.bool false, ?_, by rw [show noneB rs m = false from decide_eq_false fun h => by obtain ⟨y, hy, k⟩ := hin.some; have := h y hy; omega], hB.trans (belowK_b (w := w) (Nat.le_refl _) W D _ _ (by simp at hD; omega) hK rfl rfl)⟩
    simp [results, Tryz.f103, go_sem, hc5]

set_option maxHeartbeats 4000000 in
theorem among_any (p : Option Addr) (n c : Nat) (rs : List RwA) (b : RwA) (w : World) (hR : Rows w p n rs) (hb : b.Ok w) :
    Calls Tryz.prog 127 #[.slice p n c, .slice b.p b.n b.c] w fun z w' => z = .returned (.bool (amongB rs b.xs)) ∧ Below w.heap.size w w' := by
  obtain ⟨bp, bn, bc, bx⟩ := b
  dsimp only
  obtain ⟨s, hs⟩ : ∃ s, strOfNums bx = s := ⟨_, rfl⟩
  refine (callsIn_wide (n := 3)).1 ?_
  refine callsIn_of_wp_marks Tryz.func127 rfl trivial ?_ rfl
  have M1 := fun X (k : Below w.heap.size w X) => markOf_any ⟨bp, bn, bc, bx⟩ X (hb.on k)
  dsimp only at M1
  rw [hs] at M1
  simp only [Tryz.ntmps127, List.size_toArray, List.length_cons, List.length_nil, Nat.reduceAdd, Nat.reduceSub, Array.replicate_succ, Array.replicate_zero, List.push_toArray, List.append_toArray, List.nil_append, List.cons_append]
  gi_wp2_with (first | (refine ⟨trivial, ?_⟩; gi_at_call 154; refine (callsIn_wide.2 (M1 _ (made_below _ _ (Below.refl _ _)))).mono ?_; clear M1; rintro e w' ⟨rfl, rfl⟩) | (refine ⟨trivial, ?_⟩; gi_at_call 126; refine (callsIn_wide.2 (told_any _ _ _ _)).mono ?_; rintro e w' ⟨rfl, rfl⟩))
  have d0 := cell_new_l w (.bool false) 4
  have d1 := cell_new_l (w.alloc (.cells #[.bool false] 4)) (.string s) 195
  have d2 := cell_new_l ((w.alloc (.cells #[.bool false] 4)).alloc (.cells #[.string s] 195)) (.string s) 195
  have d3 := cell_new_l (((w.alloc (.cells #[.bool false] 4)).alloc (.cells #[.string s] 195)).alloc (.cells #[.string s] 195)) (.slice p n c) 26
  simp only [World.size_alloc] at d1 d2 d3
  have hB0 : Below w.heap.size w ((((w.alloc (.cells #[.bool false] 4)).alloc (.cells #[.string s] 195)).alloc (.cells #[.string s] 195)).alloc (.cells #[.slice p n c] 26)) := made_below _ _ (made_below _ _ (made_below _ _ (made_below _ _ (Below.refl _ _))))
  have t0 := cell_alloc_l (.cells #[.slice p n c] 26) (cell_alloc_l (.cells #[.string s] 195) (cell_alloc_l (.cells #[.string s] 195) d0.1))
  have z0 := frozen_alloc_l (.cells #[.slice p n c] 26) (cell_alloc_l (.cells #[.string s] 195) (cell_alloc_l (.cells #[.string s] 195) d0.1)) (frozen_alloc_l (.cells #[.string s] 195) (cell_alloc_l (.cells #[.string s] 195) d0.1) (frozen_alloc_l (.cells #[.string s] 195) d0.1 d0.2))
  have t2 := cell_alloc_l (.cells #[.slice p n c] 26) d2.1
  refine wpIn_rangeFunc_ownF rfl (by omega) (gf := 153) (lb := #[.pointer (some ⟨w.heap.size + 1 + 1 + 1, 0, none⟩)]) rfl trivial (enters_of Tryz.func153 (by kernel_rfl) rfl)
    (told_stops _ (by omega) (w.heap.size + 1 + 1 + 1) p n c rs w _ (by simp) d3.1 hR hB0) belowK_t (belowK_b (by simp; omega)) (Below.refl _ _) (fun _ => rfl)
    (fun pre W => (AllT (fun y => y.xs ≠ bx) pre ∧ W.cell? ⟨w.heap.size + 1 + 1, 0, none⟩ = some (.string s) ∧ W.cell? ⟨w.heap.size, 0, none⟩ = some (.bool false) ∧ W.frozen? ⟨w.heap.size, 0, none⟩ = false) ∧ Below w.heap.size w W)
    (fun c pre W => (c = .ret ∧ SomeT (fun y => y.xs = bx) pre ∧ W.cell? ⟨w.heap.size, 0, none⟩ = some (.bool true)) ∧ Below w.heap.size w W)
    (OwnFrom.and (Go.Own.from (fun s A B row hs hg hr => ⟨hs.1, cell_kept hs.2.1 hg hr, cell_kept hs.2.2.1 hg hr, (frozen_kept hs.2.2.1 hg hr).trans hs.2.2.2⟩) _) (ownFrom_below (Nat.le_refl _) (by simp; omega)))
    (fun c => OwnFrom.and (Go.Own.from (fun s A B row hs hg hr => ⟨hs.1, hs.2.1, cell_kept hs.2.2 hg hr⟩) _) (ownFrom_below (Nat.le_refl _) (by simp; omega)))
    ⟨⟨AllT.nil _, t2, t0, z0⟩, hB0⟩
    (fun x => { tmps := #[.slice p n c, .slice bp bn bc, undef, undef, .pointer (some ⟨w.heap.size, 0, none⟩), .pointer (some ⟨w.heap.size + 1 + 1, 0, none⟩), .slice x.1.p x.1.n x.1.c, .slice bp bn bc, .agg #[.string s], .slice p n c, .func (.func 153) #[] #[.pointer (some ⟨w.heap.size + 1 + 1 + 1, 0, none⟩)], .slice x.1.p x.1.n x.1.c, undef, undef, undef, undef], defers := [] }) ?assign ?body ?done ?stop
  case assign =>
    intro l x W K hK
    gi_wp2
    exact hK
  case body =>
    rintro l pre ⟨⟨xp, xn, xc, xs⟩, hx⟩ W ⟨⟨hp, hcw, hcr, hfr⟩, hB⟩ _
    have okx := hR.ok _ hx
    have hn := okx.hn
    have M2 := fun X (k : Below w.heap.size w X) => markOf_any ⟨xp, xn, xc, xs⟩ X (okx.on k)
    obtain ⟨t, ht⟩ : ∃ t, strOfNums xs = t := ⟨_, rfl⟩
    dsimp only at M2 hn
    rw [ht] at M2
    have hmx : Tryz.prog.follows .mixedOrders = true := by kernel_rfl
    have e1 : W.drew.cell? ⟨w.heap.size + 1 + 1, 0, none⟩ = some (.string s) := hcw
    have e2 : ∀ o, (W.alloc o).cell? ⟨w.heap.size + 1 + 1, 0, none⟩ = some (.string s) := fun o => cell_alloc_l o hcw
    have same := same_rows okx.byte hb.byte
    dsimp only at same
    rw [ht, hs] at same
    have c4 : ∀ o, (W.alloc o).cell? ⟨w.heap.size, 0, none⟩ = some (.bool false) := fun o => cell_alloc_l o hcr
    have f4 : ∀ o, (W.alloc o).frozen? ⟨w.heap.size, 0, none⟩ = false := fun o => frozen_alloc_l o hcr hfr
    have b4 : ∀ o, Below w.heap.size w (W.alloc o) := fun o => hB.alloc hB.size o
    have b5 : ∀ o, Below w.heap.size W (W.alloc o) := fun o => (Below.refl _ _).alloc hB.size o
    dsimp only
    by_cases hxy : xs = bx
    · rw [decide_eq_true hxy, beq_iff_eq] at same
      clear hR hb okx
      gi_wp2
      gi_region_with_o (refine ⟨trivial, ?_⟩; gi_at_call 154; refine (CallsIn.inRound l (callsIn_wide.2 (M2 _ (by first | exact hB.drew | exact hB)))).mono ?_; clear M2; rintro e w' ⟨rfl, rfl⟩)
      all_goals gi_wp2
      all_goals exact ⟨((KeepsOthers.alloc W _).trans (KeepsOthers.setCell _ _ _)).trans (KeepsOthers.drew _), ⟨rfl, SomeT.last _ _ hxy, World.cell?_setCell_same' (W.alloc _) _ _ (by rw [c4]; rfl)⟩, ((b4 _).setCell (p := ⟨w.heap.size, 0, none⟩) (Nat.le_refl _) _).drew⟩
    · rw [decide_eq_false hxy, beq_eq_false_iff_ne] at same
      clear hR hb okx
      gi_wp2
      gi_region_with_o (refine ⟨trivial, ?_⟩; gi_at_call 154; refine (CallsIn.inRound l (callsIn_wide.2 (M2 _ (by first | exact hB.drew | exact hB)))).mono ?_; clear M2; rintro e w' ⟨rfl, rfl⟩)
      all_goals gi_wp2
      all_goals exact ⟨(KeepsOthers.alloc W _).trans (KeepsOthers.drew _), (b5 _).drew, ⟨hp.step _ hxy, e2 _, c4 _, f4 _⟩, (b4 _).drew⟩
  case done =>
    rintro D ys W hD rfl ⟨⟨hne, _, hcr, hfr⟩, hB⟩ hK
    gi_wp2
    have hK' := (KeepsOthers.setCell W ⟨w.heap.size, 0, none⟩ (.bool false)).same D _ hK rfl
    refine ⟨by simp, .inl ⟨_, _, rfl, run_takeDeferred hK', ?_⟩⟩
    have hc5 := cell_kept (World.cell?_setCell_same' W ⟨w.heap.size, 0, none⟩ (.bool false) (by rw [hcr]; rfl)) (grownBy_putObj' _ D (.deferred none)) (fun r e => by cases e; exact ⟨_, hK', rfl⟩)
    refine ⟨.bool false, ?_, by rw [show amongB rs bx = false from decide_eq_false fun h => let ⟨y, hy, e⟩ := List.mem_map.1 h; hne.all y hy e], (hB.setCell (p := ⟨w.heap.size, 0, none⟩) (by simp) _).trans (belowK_b (w := w) (Nat.le_refl _) _ D _ _ (by simp at hD; omega) hK' rfl rfl)⟩
    simp [results, Tryz.f127, go_sem, hc5]
  case stop =>
    rintro D c pre W hD hpre ⟨⟨rfl, hin, hcr⟩, hB⟩ hK
    gi_wp2
    refine ⟨by simp, .inl ⟨_, _, rfl, run_takeDeferred hK, ?_⟩⟩
    have hc5 := cell_kept hcr (grownBy_putObj' _ D (.deferred none)) (fun r e => by cases e; exact ⟨_, hK, rfl⟩)
    refine ⟨.bool true, ?_, by rw [show amongB rs bx = true from decide_eq_true (by obtain ⟨y, hy, k⟩ := hin.some; exact List.mem_map.2 ⟨y, hy, k⟩)], hB.trans (belowK_b (w := w) (Nat.le_refl _) W D _ _ (by simp at hD; omega) hK rfl rfl)⟩
    simp [results, Tryz.f127, go_sem, hc5]

end Go.Proofs.YthfnechcddmjkaaGreatDoor

namespace Go.Proofs.YthfnechcddmjkaaGreatDoor
open Go.RowKit
set_option maxRecDepth 100000

theorem Rows.part {w : World} {p : Option Addr} {n : Nat} {rs : List RwA} (h : Rows w p n rs) {k : Nat} (hk : k ≤ n) : Rows w p k (rs.take k) :=
  ⟨Nat.le_trans hk h.hn, by rw [List.length_take, h.len]; omega, fun h0 => by
    obtain ⟨b, o, e, hc⟩ := h.lie (by omega)
    refine ⟨b, o, e, fun i hi => ?_⟩
    rw [hc i (by omega), List.getD_eq_getElem?_getD, List.getD_eq_getElem?_getD, List.getElem?_take_of_lt hi], fun x hx => h.ok x (List.take_subset _ _ hx)⟩

def twoB (rs : List RwA) : Bool := decide (∀ i, i < rs.length → (rs.getD i default).xs ∉ (rs.take i).map RwA.xs)

set_option maxHeartbeats 4000000 in
theorem noTwoAlike_any (p : Option Addr) (n c : Nat) (rs : List RwA) (w : World) (hR : Rows w p n rs) (hc : n ≤ c) :
    Calls Tryz.prog 104 #[.slice p n c] w fun z w' => z = .returned (.bool (twoB rs)) ∧ Below w.heap.size w w' := by
  obtain ⟨R, hRR⟩ : ∃ R : Bool, R = twoB rs := ⟨_, rfl⟩
  rw [← hRR]
  have hat : Hid (∀ i, i < n → (rs.getD i default).xs ∈ (rs.take i).map RwA.xs → R = false) := fun i hi h => by rw [hRR]; exact decide_eq_false fun k => k i (by rw [hR.len]; exact hi) h
  have hall : Hid ((∀ i, i < n → (rs.getD i default).xs ∉ (rs.take i).map RwA.xs) → R = true) := fun h => by rw [hRR]; exact decide_eq_true fun i hi => h i (by rw [hR.len] at hi; exact hi)
  have hn := hR.hn
  clear hRR
  go_enter Tryz.func104, Tryz.ntmps104
  go_wp2_with (fail)
  go_loopw [7] (fun i wr => ∃ k : Nat, k ≤ n ∧ i = .int .i64 k ∧ Hid (∀ j, j < k → (rs.getD j default).xs ∉ (rs.take j).map RwA.xs) ∧ Below w.heap.size w wr) (fun i _ => n - (intOf i).toNat)
  case atStart => exact ⟨0, Nat.zero_le _, rfl, fun j hj => absurd hj (Nat.not_lt_zero _), Below.refl _ _⟩
  case round =>
    obtain ⟨k, hk, rfl, hdone, hbel⟩ := hrel
    by_cases hlt : k < n
    · obtain ⟨b, o, x, rfl, l0, hx, lx⟩ := (hR.on hbel).at hlt
      have CA := fun X (b1 : Below wr.heap.size wr X) => among_any (some ⟨b, o, none⟩) k c (rs.take k) x X (((hR.on hbel).part hk).on b1) (lx.on b1)
      have hmem : Hid (x.xs ∈ (rs.take k).map RwA.xs → R = false) := fun h => hat.out k hlt (by rw [hx]; exact h)
      have hst : Hid (x.xs ∉ (rs.take k).map RwA.xs → ∀ j, j < k + 1 → (rs.getD j default).xs ∉ (rs.take j).map RwA.xs) := fun h j hj => by
        rcases Nat.lt_succ_iff_lt_or_eq.1 hj with e | e
        · exact hdone.out j e
        · rw [e, hx]; exact h
      obtain ⟨xp, xn, xc, xs⟩ := x
      dsimp only at l0 hmem hst CA
      have hkc : k ≤ c := by omega
      have hkc2 : (k : Int) ≤ (c : Int) := by omega
      clear hx lx hdone hR
      by_cases hin : xs ∈ (rs.take k).map RwA.xs
      · have hr := hmem.out hin
        subst hr
        rw [show amongB (rs.take k) xs = true from decide_eq_true hin] at CA
        clear hmem hst hat hall hin
        go_wp2_with (fail)
        refine (CA _ (Below.refl _ _)).mono ?_
        rintro z w2 ⟨rfl, b2⟩
        have hbel2 := below_on hbel b2
        clear b2 hbel CA
        go_wp2_with (fail)
        go_ret
        exact ⟨rfl, hbel2⟩
      · have hs2 := hst.out hin
        replace hs2 : Hid (∀ j, j < k + 1 → (rs.getD j default).xs ∉ (rs.take j).map RwA.xs) := hs2
        rw [show amongB (rs.take k) xs = false from decide_eq_false hin] at CA
        clear hmem hst hin
        go_wp2_with (fail)
        refine (CA _ (Below.refl _ _)).mono ?_
        rintro z w2 ⟨rfl, b2⟩
        have hbel2 := below_on hbel b2
        clear b2 hbel CA
        go_wp2_with (fail)
        go_roundw
        case rel => exact ⟨k + 1, by omega, by go_num, hs2, hbel2⟩
        case measure => simp [intOf]; omega
    · have hkn : k = n := by omega
      subst hkn
      have hr := hall.out hdone.out
      subst hr
      clear hall hat hdone hR
      go_wp2_with (fail)
      go_ret
      exact ⟨rfl, hbel⟩

theorem rB_parts (x : RdA) (hs : x.seen.length = x.n) (hg : x.got.length = x.m) (h4 : x.m = x.n) (h1 : x.s.n = 32) (h2 : 0 ≤ x.e ∧ x.e ≤ 40) (h3 : x.n ≤ 20) :
    rB x = (noneB x.seen 1560 && noneB x.got 200 && twoB x.seen) := by
  have at1 : ∀ i (h : i < x.seen.length), x.seen.getD i default ∈ x.seen := fun i h => getD_memR h
  have at2 : ∀ i (h : i < x.got.length), x.got.getD i default ∈ x.got := fun i h => getD_memR h
  by_cases a : ∀ y ∈ x.seen, (y.n : Int) ≤ 1560
  · by_cases b : ∀ y ∈ x.got, (y.n : Int) ≤ 200
    · by_cases c : ∀ i, i < x.seen.length → (x.seen.getD i default).xs ∉ (x.seen.take i).map RwA.xs
      · rw [noneB, noneB, twoB, decide_eq_true a, decide_eq_true b, decide_eq_true c]
        exact rB_true ⟨h1, h2, h3, h4, fun i hi => ⟨a _ (at1 i (by omega)), b _ (at2 i (by omega)), c i (by omega)⟩⟩
      · rw [noneB, noneB, twoB, decide_eq_true a, decide_eq_true b, decide_eq_false c]
        exact rB_false fun k => c fun i hi => (k.2.2.2.2 i (by omega)).2.2
    · rw [noneB, noneB, decide_eq_true a, decide_eq_false b]
      refine rB_false fun k => b fun y hy => ?_
      obtain ⟨i, hi, rfl⟩ := List.getElem_of_mem hy
      have := (k.2.2.2.2 i (by omega)).2.1
      rwa [List.getD_eq_getElem?_getD, List.getElem?_eq_getElem hi] at this
  · rw [noneB, decide_eq_false a]
    refine rB_false fun k => a fun y hy => ?_
    obtain ⟨i, hi, rfl⟩ := List.getElem_of_mem hy
    have := (k.2.2.2.2 i (by omega)).1
    rwa [List.getD_eq_getElem?_getD, List.getElem?_eq_getElem hi] at this

set_option maxHeartbeats 8000000 in
theorem implReaderOk_any (x : RdA) (w : World) (ok : x.Ok w) (hc : x.n ≤ x.c) :
    Calls Tryz.prog 60 #[.agg x.cells] w fun z w' => z = .returned (.bool (rB x)) ∧ Below w.heap.size w w' := by
  have parts := rB_parts x ok.seen.len ok.got.len
  obtain ⟨⟨sp, sn, sc, sx⟩, e, p, n, c, seen, q, m, d, got⟩ := x
  have E1 : RdA.cells ⟨⟨sp, sn, sc, sx⟩, e, p, n, c, seen, q, m, d, got⟩ = #[.slice sp sn sc, .int .i64 e, .slice p n c, .slice q m d] := rfl
  rw [E1]
  obtain ⟨R, hR⟩ : ∃ R : Bool, R = rB ⟨⟨sp, sn, sc, sx⟩, e, p, n, c, seen, q, m, d, got⟩ := ⟨_, rfl⟩
  rw [← hR] at parts ⊢
  have hno : Hid (¬ (sn = 32 ∧ (0 ≤ e ∧ e ≤ 40) ∧ n ≤ 20 ∧ m = n) → R = false) := fun h => by rw [hR]; exact rB_false fun k => h ⟨k.1, k.2.1, k.2.2.1, k.2.2.2.1⟩
  have rows := ok.seen
  have rows2 := ok.got
  dsimp only at rows rows2 parts hc
  replace parts : Hid (m = n → sn = 32 → 0 ≤ e ∧ e ≤ 40 → n ≤ 20 → R = (noneB seen 1560 && noneB got 200 && twoB seen)) := parts
  have hn1 := rows.hn
  have hn2 := rows2.hn
  have CH := hasKeys_any sp sn sc e
  clear ok E1 hR
  have b0 : ∀ o, Below w.heap.size w (w.alloc o) := fun o => (Below.refl _ _).alloc (Nat.le_refl _) o
  by_cases h12 : sn = 32 ∧ 0 ≤ e ∧ e ≤ 40
  · rw [hasB_yes h12] at CH
    by_cases h3 : n ≤ 20
    · have h3' : ¬ (20 < (n : Int)) := by omega
      by_cases h4 : m = n
      · have hd : ((n : Int) != (n : Int)) = false := by simp
        have hpp := parts.out h4 h12.1 h12.2 h3
        subst h4
        have C1 := fun X (b : Below w.heap.size w X) => noneLonger_any p m c seen 1560 X (rows.on b)
        have C2 := fun X (b : Below w.heap.size w X) => noneLonger_any q m d got 200 X (rows2.on b)
        have C3 := fun X (b : Below w.heap.size w X) => noTwoAlike_any p m c seen X (rows.on b) hc
        clear parts hno rows rows2 h12
        cases ha : noneB seen 1560
        · rw [ha] at C1 hpp
          obtain rfl : R = false := hpp
          clear C2 C3 ha
          go_enter Tryz.func60, Tryz.ntmps60
          go_wp2_with (first | (go_at_call 102; refine (CH _).mono ?_; rintro z w2 ⟨rfl, rfl⟩) | (go_at_call 103; refine (C1 _ (b0 _)).mono ?_; rintro z w2 ⟨rfl, b2⟩; have b3 := made_below _ _ b2; clear b2 C1))
          go_ret
          exact ⟨rfl, b3⟩
        · rw [ha] at C1 hpp
          cases hb : noneB got 200
          · rw [hb] at C2 hpp
            obtain rfl : R = false := hpp
            clear C3 ha hb
            go_enter Tryz.func60, Tryz.ntmps60
            go_wp2_with (first | (go_at_call 102; refine (CH _).mono ?_; rintro z w2 ⟨rfl, rfl⟩))
            refine (C1 _ (b0 _)).mono ?_
            rintro z w2 ⟨rfl, b2⟩
            have D2 := (Cells.made w _ _).on b2
            have c3 : w2.cell? ⟨w.heap.size, 3, none⟩ = some (.slice q m d) := (D2.2 3).1
            have b3 := made_below _ _ b2
            clear b2 C1 D2
            go_wp2_with (fail)
            refine (C2 _ b3).mono ?_
            rintro z w3 ⟨rfl, b4⟩
            have b5 := below_on b3 b4
            clear b4 C2
            go_wp2_with (fail)
            go_ret
            exact ⟨rfl, b5⟩
          · rw [hb] at C2 hpp
            obtain rfl : R = twoB seen := hpp
            obtain ⟨tb, htb⟩ : ∃ tb, twoB seen = tb := ⟨_, rfl⟩
            rw [htb] at C3 ⊢
            clear ha hb htb
            go_enter Tryz.func60, Tryz.ntmps60
            go_wp2_with (first | (go_at_call 102; refine (CH _).mono ?_; rintro z w2 ⟨rfl, rfl⟩))
            refine (C1 _ (b0 _)).mono ?_
            rintro z w2 ⟨rfl, b2⟩
            have D2 := (Cells.made w _ _).on b2
            have c3 : w2.cell? ⟨w.heap.size, 3, none⟩ = some (.slice q m d) := (D2.2 3).1
            have b3 := made_below _ _ b2
            clear b2 C1
            go_wp2_with (fail)
            refine (C2 _ b3).mono ?_
            rintro z w3 ⟨rfl, b4⟩
            have D3 := D2.on b4
            have c2 : w3.cell? ⟨w.heap.size, 2, none⟩ = some (.slice p m c) := (D3.2 2).1
            have b5 := below_on b3 b4
            clear b4 C2 D2 c3
            go_wp2_with (fail)
            refine (C3 _ b5).mono ?_
            rintro z w4 ⟨rfl, b6⟩
            have b7 := below_on b5 b6
            clear b6 C3 D3 c2
            go_wp2_with (fail)
            go_ret
            exact ⟨rfl, b7⟩
      · have hd : ((m : Int) != (n : Int)) = true := by simp; omega
        have hr := hno.out fun k => h4 k.2.2.2
        subst hr
        clear hno parts h12 h4 rows rows2
        go_enter Tryz.func60, Tryz.ntmps60
        go_wp2_with (first | (go_at_call 102; refine (CH _).mono ?_; rintro z w2 ⟨rfl, rfl⟩))
        go_ret
        exact ⟨rfl, b0 _⟩
    · have h3' : 20 < (n : Int) := by omega
      have hr := hno.out fun k => h3 k.2.2.1
      subst hr
      clear hno parts h12 h3 rows rows2
      go_enter Tryz.func60, Tryz.ntmps60
      go_wp2_with (first | (go_at_call 102; refine (CH _).mono ?_; rintro z w2 ⟨rfl, rfl⟩))
      go_ret
      exact ⟨rfl, b0 _⟩
  · rw [hasB_no h12] at CH
    have hr := hno.out fun k => h12 ⟨k.1, k.2.1⟩
    subst hr
    clear hno parts h12 rows rows2
    go_enter Tryz.func60, Tryz.ntmps60
    go_wp2_with (first | (go_at_call 102; refine (CH _).mono ?_; rintro z w2 ⟨rfl, rfl⟩))
    go_ret
    exact ⟨rfl, b0 _⟩

end Go.Proofs.YthfnechcddmjkaaGreatDoor
