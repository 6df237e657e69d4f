/-
  The program's noneLonger and among: what they answer of any list of rows. Conditions: rows that can be read.
-/
import Derived.Test.YtelfejgpphoifaaTold16
namespace Go.Proofs.Ytelfejgpphoifaa
open Go.RowKit Go.Shelf
set_option maxRecDepth 100000

attribute [local go_sem] Oper.semAt_some

theorem cell_of_box_l {W : World} {B : Nat} {v : Value} {t : TypeId} (h : W.heap[B]? = some (.cells #[v] t (0, 0))) : W.cell? ⟨B, 0, none⟩ = some v ∧ W.frozen? ⟨B, 0, none⟩ = false := by
  constructor <;> simp [World.cell?, World.frozen?, h]
theorem cell_new_l (W : World) (v : Value) (t : TypeId) : (W.alloc (.cells #[v] t)).cell? ⟨W.heap.size, 0, none⟩ = some v ∧ (W.alloc (.cells #[v] t)).frozen? ⟨W.heap.size, 0, none⟩ = false :=
  cell_of_box_l (World.alloc_heap_new W _)
theorem cell_alloc_l {W : World} {a : Addr} {v : Value} (o : Obj) (h : W.cell? a = some v) : (W.alloc o).cell? a = some v := cell_kept h (World.grownBy_alloc W o none) (fun r e => by cases e)
theorem frozen_alloc_l {W : World} {a : Addr} {v : Value} (o : Obj) (h : W.cell? a = some v) (hf : W.frozen? a = false) : (W.alloc o).frozen? a = false := (frozen_kept h (World.grownBy_alloc W o none) (fun r e => by cases e)).trans hf

/-- All that came are such; one that came is. -/
def AllT {rs : List RwA} (t : RwA → Prop) (pre : List { x // x ∈ rs }) : Prop := ∀ y ∈ pre, t y.1
def SomeT {rs : List RwA} (t : RwA → Prop) (pre : List { x // x ∈ rs }) : Prop := ∃ y ∈ pre, t y.1
theorem AllT.nil {rs : List RwA} (t : RwA → Prop) : AllT t ([] : List { x // x ∈ rs }) := fun y hy => by simp at hy
theorem AllT.step {rs : List RwA} {t : RwA → Prop} {pre : List { x // x ∈ rs }} (h : AllT t pre) {x : RwA} (hx : x ∈ rs) (k : t x) : AllT t (pre ++ [⟨x, hx⟩]) := fun y hy =>
  (List.mem_append.1 hy).elim (h y) (fun e => by obtain rfl := List.mem_singleton.1 e; exact k)
theorem SomeT.last {rs : List RwA} {t : RwA → Prop} (pre : List { x // x ∈ rs }) {x : RwA} (hx : x ∈ rs) (k : t x) : SomeT t (pre ++ [⟨x, hx⟩]) := ⟨_, List.mem_append.2 (.inr (List.mem_singleton.2 rfl)), k⟩
theorem AllT.all {rs : List RwA} {t : RwA → Prop} (h : AllT t rs.attach) : ∀ x ∈ rs, t x := fun x hx => h ⟨x, hx⟩ (List.mem_attach _ _)
theorem SomeT.some {rs : List RwA} {t : RwA → Prop} {pre : List { x // x ∈ rs }} (h : SomeT t pre) : ∃ x ∈ rs, t x := let ⟨y, _, k⟩ := h; ⟨y.1, y.2, k⟩
/-- None of them has more than m bytes. -/
def noneB (rs : List RwA) (m : Int) : Bool := decide (∀ x ∈ rs, (x.n : Int) ≤ m)

set_option maxHeartbeats 4000000 in
theorem noneLonger_any (p : Option Addr) (n c : Nat) (rs : List RwA) (m : Int) (w : World) (hR : Rows w p n rs) :
    Calls Try.prog 26 #[.slice p n c, .int .i64 m] w fun z w' => z = .returned (.bool (noneB rs m)) ∧ Below w.heap.size w w' := by
  refine (callsIn_wide (n := 3)).1 ?_
  refine callsIn_of_wp_marks Try.func26 rfl trivial ?_ rfl
  simp only [Try.ntmps26, List.size_toArray, List.length_cons, List.length_nil, Nat.reduceAdd, Nat.reduceSub, Array.replicate_succ, Array.replicate_zero, List.push_toArray, List.append_toArray, List.nil_append, List.cons_append]
  gi_wp2_with (refine ⟨trivial, ?_⟩; gi_at_call 35; refine (callsIn_wide.2 (told_any _ _ _ _)).mono ?_; rintro e w' ⟨rfl, rfl⟩)
  have c0 := cell_new_l w (.int .i64 m) 3
  have c1 := cell_new_l (w.alloc (.cells #[.int .i64 m] 3)) (.bool false) 4
  have c2 := cell_new_l ((w.alloc (.cells #[.int .i64 m] 3)).alloc (.cells #[.bool false] 4)) (.slice p n c) 23
  simp only [World.size_alloc] at c1 c2
  have hB0 : Below w.heap.size w (((w.alloc (.cells #[.int .i64 m] 3)).alloc (.cells #[.bool false] 4)).alloc (.cells #[.slice p n c] 23)) := (((Below.refl _ w).alloc (Nat.le_refl _) _).alloc (by simp) _).alloc (by simp; omega) _
  refine wpIn_rangeFunc_ownF rfl (by omega) (gf := 39) (lb := #[.pointer (some ⟨w.heap.size + 1 + 1, 0, none⟩)]) rfl trivial (enters_of Try.func39 (by kernel_rfl) rfl)
    (told_stops _ (by omega) (w.heap.size + 1 + 1) p n c rs w _ (by simp) c2.1 hR hB0) belowK_t (belowK_b (by simp; omega)) (Below.refl _ _) (fun _ => rfl)
    (fun pre W => (AllT (fun y => (y.n : Int) ≤ m) pre ∧ W.cell? ⟨w.heap.size, 0, none⟩ = some (.int .i64 m) ∧ W.cell? ⟨w.heap.size + 1, 0, none⟩ = some (.bool false) ∧ W.frozen? ⟨w.heap.size + 1, 0, none⟩ = false) ∧ Below w.heap.size w W)
    (fun c pre W => (c = .ret ∧ SomeT (fun y => m < (y.n : Int)) pre ∧ W.cell? ⟨w.heap.size + 1, 0, none⟩ = some (.bool false)) ∧ Below w.heap.size w W)
    (OwnFrom.and (Go.Own.from (fun s A B row hs hg hr => ⟨hs.1, cell_kept hs.2.1 hg hr, cell_kept hs.2.2.1 hg hr, (frozen_kept hs.2.2.1 hg hr).trans hs.2.2.2⟩) _) (ownFrom_below (Nat.le_refl _) (by simp; omega)))
    (fun c => OwnFrom.and (Go.Own.from (fun s A B row hs hg hr => ⟨hs.1, hs.2.1, cell_kept hs.2.2 hg hr⟩) _) (ownFrom_below (Nat.le_refl _) (by simp; omega)))
    ⟨⟨AllT.nil _, cell_alloc_l _ (cell_alloc_l _ c0.1), cell_alloc_l _ c1.1, frozen_alloc_l _ c1.1 c1.2⟩, hB0⟩
    (fun x => { tmps := #[.slice p n c, .int .i64 m, undef, .pointer (some ⟨w.heap.size, 0, none⟩), .pointer (some ⟨w.heap.size + 1, 0, none⟩), .slice x.1.p x.1.n x.1.c, .slice p n c, .func (.func 39) #[] #[.pointer (some ⟨w.heap.size + 1 + 1, 0, none⟩)], .slice x.1.p x.1.n x.1.c, undef, undef, undef, undef], defers := [] }) ?assign ?body ?done ?stop
  case assign =>
    intro l x W K hK
    gi_wp2
    exact hK
  case body =>
    rintro l pre ⟨⟨xp, xn, xc, xs⟩, hx⟩ W ⟨⟨hp, hcw, hcr, hfr⟩, hB⟩ _
    have okx := (hR.ok _ hx).hn
    dsimp only at okx ⊢
    gi_wp2
    · rename_i hx
      exact ⟨KeepsOthers.setCell _ _ _, ⟨rfl, SomeT.last _ _ (by show m < (xn : Int); omega), World.cell?_setCell_same' _ _ _ (by rw [hcr]; rfl)⟩, hB.setCell (p := ⟨w.heap.size + 1, 0, none⟩) (by simp) _⟩
    · rename_i hx
      exact ⟨KeepsOthers.refl _, Below.refl _ _, ⟨hp.step _ (by show (xn : Int) ≤ m; omega), hcw, hcr, hfr⟩, hB⟩
  case done =>
    rintro D ys W hD rfl ⟨⟨hne, _, hcr, hfr⟩, hB⟩ hK
    gi_wp2
    have hK' := (KeepsOthers.setCell W ⟨w.heap.size + 1, 0, none⟩ (.bool true)).same D _ hK rfl
    refine ⟨by simp, .inl ⟨_, _, rfl, run_takeDeferred hK', ?_⟩⟩
    have hc5 := cell_kept (World.cell?_setCell_same' W ⟨w.heap.size + 1, 0, none⟩ (.bool true) (by rw [hcr]; rfl)) (grownBy_putObj' _ D (.deferred none)) (fun r e => by cases e; exact ⟨_, hK', rfl⟩)
    refine ⟨.bool true, ?_, by rw [show noneB rs m = true from decide_eq_true hne.all], (hB.setCell (p := ⟨w.heap.size + 1, 0, none⟩) (by simp) _).trans (belowK_b (w := w) (Nat.le_refl _) _ D _ _ (by simp at hD; omega) hK' rfl rfl)⟩
    simp [results, Try.f26, go_sem, hc5]
  case stop =>
    rintro D c pre W hD hpre ⟨⟨rfl, hin, hcr⟩, hB⟩ hK
    gi_wp2
    refine ⟨by simp, .inl ⟨_, _, rfl, run_takeDeferred hK, ?_⟩⟩
    have hc5 := cell_kept hcr (grownBy_putObj' _ D (.deferred none)) (fun r e => by cases e; exact ⟨_, hK, rfl⟩)
    refine ⟨.bool false, ?_, by rw [show noneB rs m = false from decide_eq_false fun h => by obtain ⟨y, hy, k⟩ := hin.some; have := h y hy; omega], hB.trans (belowK_b (w := w) (Nat.le_refl _) W D _ _ (by simp at hD; omega) hK rfl rfl)⟩
    simp [results, Try.f26, go_sem, hc5]

set_option maxHeartbeats 4000000 in
theorem among_any (p : Option Addr) (n c : Nat) (rs : List RwA) (b : RwA) (w : World) (hR : Rows w p n rs) (hb : b.Ok w) :
    Calls Try.prog 33 #[.slice p n c, .slice b.p b.n b.c] w fun z w' => z = .returned (.bool (amongB rs b.xs)) ∧ Below w.heap.size w w' := by
  obtain ⟨bp, bn, bc, bx⟩ := b
  dsimp only
  obtain ⟨s, hs⟩ : ∃ s, strOfNums bx = s := ⟨_, rfl⟩
  refine (callsIn_wide (n := 3)).1 ?_
  refine callsIn_of_wp_marks Try.func33 rfl trivial ?_ rfl
  have M1 := fun X (k : Below w.heap.size w X) => markOf_any ⟨bp, bn, bc, bx⟩ X (hb.on k)
  dsimp only at M1
  rw [hs] at M1
  simp only [Try.ntmps33, List.size_toArray, List.length_cons, List.length_nil, Nat.reduceAdd, Nat.reduceSub, Array.replicate_succ, Array.replicate_zero, List.push_toArray, List.append_toArray, List.nil_append, List.cons_append]
  gi_wp2_with (first | (refine ⟨trivial, ?_⟩; gi_at_call 38; refine (callsIn_wide.2 (M1 _ (made_below _ _ (Below.refl _ _)))).mono ?_; clear M1; rintro e w' ⟨rfl, rfl⟩) | (refine ⟨trivial, ?_⟩; gi_at_call 35; refine (callsIn_wide.2 (told_any _ _ _ _)).mono ?_; rintro e w' ⟨rfl, rfl⟩))
  have d0 := cell_new_l w (.bool false) 4
  have d1 := cell_new_l (w.alloc (.cells #[.bool false] 4)) (.string s) 55
  have d2 := cell_new_l ((w.alloc (.cells #[.bool false] 4)).alloc (.cells #[.string s] 55)) (.string s) 55
  have d3 := cell_new_l (((w.alloc (.cells #[.bool false] 4)).alloc (.cells #[.string s] 55)).alloc (.cells #[.string s] 55)) (.slice p n c) 23
  simp only [World.size_alloc] at d1 d2 d3
  have hB0 : Below w.heap.size w ((((w.alloc (.cells #[.bool false] 4)).alloc (.cells #[.string s] 55)).alloc (.cells #[.string s] 55)).alloc (.cells #[.slice p n c] 23)) := made_below _ _ (made_below _ _ (made_below _ _ (made_below _ _ (Below.refl _ _))))
  have t0 := cell_alloc_l (.cells #[.slice p n c] 23) (cell_alloc_l (.cells #[.string s] 55) (cell_alloc_l (.cells #[.string s] 55) d0.1))
  have z0 := frozen_alloc_l (.cells #[.slice p n c] 23) (cell_alloc_l (.cells #[.string s] 55) (cell_alloc_l (.cells #[.string s] 55) d0.1)) (frozen_alloc_l (.cells #[.string s] 55) (cell_alloc_l (.cells #[.string s] 55) d0.1) (frozen_alloc_l (.cells #[.string s] 55) d0.1 d0.2))
  have t2 := cell_alloc_l (.cells #[.slice p n c] 23) d2.1
  refine wpIn_rangeFunc_ownF rfl (by omega) (gf := 39) (lb := #[.pointer (some ⟨w.heap.size + 1 + 1 + 1, 0, none⟩)]) rfl trivial (enters_of Try.func39 (by kernel_rfl) rfl)
    (told_stops _ (by omega) (w.heap.size + 1 + 1 + 1) p n c rs w _ (by simp) d3.1 hR hB0) belowK_t (belowK_b (by simp; omega)) (Below.refl _ _) (fun _ => rfl)
    (fun pre W => (AllT (fun y => y.xs ≠ bx) pre ∧ W.cell? ⟨w.heap.size + 1 + 1, 0, none⟩ = some (.string s) ∧ W.cell? ⟨w.heap.size, 0, none⟩ = some (.bool false) ∧ W.frozen? ⟨w.heap.size, 0, none⟩ = false) ∧ Below w.heap.size w W)
    (fun c pre W => (c = .ret ∧ SomeT (fun y => y.xs = bx) pre ∧ W.cell? ⟨w.heap.size, 0, none⟩ = some (.bool true)) ∧ Below w.heap.size w W)
    (OwnFrom.and (Go.Own.from (fun s A B row hs hg hr => ⟨hs.1, cell_kept hs.2.1 hg hr, cell_kept hs.2.2.1 hg hr, (frozen_kept hs.2.2.1 hg hr).trans hs.2.2.2⟩) _) (ownFrom_below (Nat.le_refl _) (by simp; omega)))
    (fun c => OwnFrom.and (Go.Own.from (fun s A B row hs hg hr => ⟨hs.1, hs.2.1, cell_kept hs.2.2 hg hr⟩) _) (ownFrom_below (Nat.le_refl _) (by simp; omega)))
    ⟨⟨AllT.nil _, t2, t0, z0⟩, hB0⟩
    (fun x => { tmps := #[.slice p n c, .slice bp bn bc, undef, undef, .pointer (some ⟨w.heap.size, 0, none⟩), .pointer (some ⟨w.heap.size + 1 + 1, 0, none⟩), .slice x.1.p x.1.n x.1.c, .slice bp bn bc, .agg #[.string s], .slice p n c, .func (.func 39) #[] #[.pointer (some ⟨w.heap.size + 1 + 1 + 1, 0, none⟩)], .slice x.1.p x.1.n x.1.c, undef, undef, undef, undef], defers := [] }) ?assign ?body ?done ?stop
  case assign =>
    intro l x W K hK
    gi_wp2
    exact hK
  case body =>
    rintro l pre ⟨⟨xp, xn, xc, xs⟩, hx⟩ W ⟨⟨hp, hcw, hcr, hfr⟩, hB⟩ _
    have okx := hR.ok _ hx
    have hn := okx.hn
    have M2 := fun X (k : Below w.heap.size w X) => markOf_any ⟨xp, xn, xc, xs⟩ X (okx.on k)
    obtain ⟨t, ht⟩ : ∃ t, strOfNums xs = t := ⟨_, rfl⟩
    dsimp only at M2 hn
    rw [ht] at M2
    have hmx : Try.prog.follows .mixedOrders = true := by kernel_rfl
    have e1 : W.drew.cell? ⟨w.heap.size + 1 + 1, 0, none⟩ = some (.string s) := hcw
    have e2 : ∀ o, (W.alloc o).cell? ⟨w.heap.size + 1 + 1, 0, none⟩ = some (.string s) := fun o => cell_alloc_l o hcw
    have same := same_rows okx.byte hb.byte
    dsimp only at same
    rw [ht, hs] at same
    have c4 : ∀ o, (W.alloc o).cell? ⟨w.heap.size, 0, none⟩ = some (.bool false) := fun o => cell_alloc_l o hcr
    have f4 : ∀ o, (W.alloc o).frozen? ⟨w.heap.size, 0, none⟩ = false := fun o => frozen_alloc_l o hcr hfr
    have b4 : ∀ o, Below w.heap.size w (W.alloc o) := fun o => hB.alloc hB.size o
    have b5 : ∀ o, Below w.heap.size W (W.alloc o) := fun o => (Below.refl _ _).alloc hB.size o
    dsimp only
    by_cases hxy : xs = bx
    · rw [decide_eq_true hxy, beq_iff_eq] at same
      clear hR hb okx
      gi_wp2
      gi_region_with_o (refine ⟨trivial, ?_⟩; gi_at_call 38; refine (CallsIn.inRound l (callsIn_wide.2 (M2 _ (by first | exact hB.drew | exact hB)))).mono ?_; clear M2; rintro e w' ⟨rfl, rfl⟩)
      all_goals gi_wp2
      all_goals exact ⟨((KeepsOthers.alloc W _).trans (KeepsOthers.setCell _ _ _)).trans (KeepsOthers.drew _), ⟨rfl, SomeT.last _ _ hxy, World.cell?_setCell_same' (W.alloc _) _ _ (by rw [c4]; rfl)⟩, ((b4 _).setCell (p := ⟨w.heap.size, 0, none⟩) (Nat.le_refl _) _).drew⟩
    · rw [decide_eq_false hxy, beq_eq_false_iff_ne] at same
      clear hR hb okx
      gi_wp2
      gi_region_with_o (refine ⟨trivial, ?_⟩; gi_at_call 38; refine (CallsIn.inRound l (callsIn_wide.2 (M2 _ (by first | exact hB.drew | exact hB)))).mono ?_; clear M2; rintro e w' ⟨rfl, rfl⟩)
      all_goals gi_wp2
      all_goals exact ⟨(KeepsOthers.alloc W _).trans (KeepsOthers.drew _), (b5 _).drew, ⟨hp.step _ hxy, e2 _, c4 _, f4 _⟩, (b4 _).drew⟩
  case done =>
    rintro D ys W hD rfl ⟨⟨hne, _, hcr, hfr⟩, hB⟩ hK
    gi_wp2
    have hK' := (KeepsOthers.setCell W ⟨w.heap.size, 0, none⟩ (.bool false)).same D _ hK rfl
    refine ⟨by simp, .inl ⟨_, _, rfl, run_takeDeferred hK', ?_⟩⟩
    have hc5 := cell_kept (World.cell?_setCell_same' W ⟨w.heap.size, 0, none⟩ (.bool false) (by rw [hcr]; rfl)) (grownBy_putObj' _ D (.deferred none)) (fun r e => by cases e; exact ⟨_, hK', rfl⟩)
    refine ⟨.bool false, ?_, by rw [show amongB rs bx = false from decide_eq_false fun h => let ⟨y, hy, e⟩ := List.mem_map.1 h; hne.all y hy e], (hB.setCell (p := ⟨w.heap.size, 0, none⟩) (by simp) _).trans (belowK_b (w := w) (Nat.le_refl _) _ D _ _ (by simp at hD; omega) hK' rfl rfl)⟩
    simp [results, Try.f33, go_sem, hc5]
  case stop =>
    rintro D c pre W hD hpre ⟨⟨rfl, hin, hcr⟩, hB⟩ hK
    gi_wp2
    refine ⟨by simp, .inl ⟨_, _, rfl, run_takeDeferred hK, ?_⟩⟩
    have hc5 := cell_kept hcr (grownBy_putObj' _ D (.deferred none)) (fun r e => by cases e; exact ⟨_, hK, rfl⟩)
    refine ⟨.bool true, ?_, by rw [show amongB rs bx = true from decide_eq_true (by obtain ⟨y, hy, k⟩ := hin.some; exact List.mem_map.2 ⟨y, hy, k⟩)], hB.trans (belowK_b (w := w) (Nat.le_refl _) W D _ _ (by simp at hD; omega) hK rfl rfl)⟩
    simp [results, Try.f33, go_sem, hc5]

end Go.Proofs.Ytelfejgpphoifaa
