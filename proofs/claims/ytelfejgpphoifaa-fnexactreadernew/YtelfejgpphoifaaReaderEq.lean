/-
  The laws' own comparison of two readers. Conditions: readers that can be read.
-/
import Derived.Test.YtelfejgpphoifaaReader
namespace Go.Proofs.Ytelfejgpphoifaa
open Go.RowKit
set_option maxRecDepth 100000

set_option maxHeartbeats 4000000 in
theorem eqReader_any (x y : RdA) (w : World) (okx : x.Ok w) (oky : y.Ok w) :
    Calls Try.prog 10 #[.agg x.cells, .agg y.cells] w fun z w' => z = .returned (.bool (decide (x.con = y.con))) ∧ Below w.heap.size w w' := by
  obtain ⟨R, hR⟩ : ∃ R : Bool, R = decide (x.con = y.con) := ⟨_, rfl⟩
  rw [← hR]
  replace hR : Hid (R = decide (x.con = y.con)) := hR
  obtain ⟨⟨sp, sn, sc, sx⟩, e, p, n, c, seen, q, m, d, got⟩ := x
  obtain ⟨⟨tp, tn, tc, tx⟩, e', p', n', c', seen', q', m', d', got'⟩ := y
  have E1 : RdA.cells ⟨⟨sp, sn, sc, sx⟩, e, p, n, c, seen, q, m, d, got⟩ = #[.slice sp sn sc, .int .i64 e, .slice p n c, .slice q m d] := rfl
  have E2 : RdA.cells ⟨⟨tp, tn, tc, tx⟩, e', p', n', c', seen', q', m', d', got'⟩ = #[.slice tp tn tc, .int .i64 e', .slice p' n' c', .slice q' m' d'] := rfl
  rw [E1, E2]
  clear E1 E2
  replace hR : Hid (R = decide ((sx, e, seen.map RwA.xs, got.map RwA.xs) = (tx, e', seen'.map RwA.xs, got'.map RwA.xs))) := hR
  have s1 := okx.seed
  have s2 := oky.seed
  have a1 := okx.seen
  have a2 := oky.seen
  have g1 := okx.got
  have g2 := oky.got
  dsimp only at s1 s2 a1 a2 g1 g2
  clear okx oky
  have kA : ∀ o1 o2, Below w.heap.size w ((w.alloc o1).alloc o2) := fun o1 o2 => made_below _ _ (made_below _ _ (Below.refl _ _))
  have sz : ∀ (W : World) o, (W.alloc o).heap.size = W.heap.size + 1 := fun W o => by simp
  have C1 := fun X (h : Below w.heap.size w X) => eqByteS_any sp tp sn tn sc tc sx tx X s1.hn s1.len s2.len (in_below s1.bytes h) (in_below s2.bytes h)
  have C2 := fun X (h : Below w.heap.size w X) => eqByteSS_any p p' n c n' c' seen seen' X (a1.on h) (a2.on h)
  have C3 := fun X (h : Below w.heap.size w X) => eqByteSS_any q q' m d m' d' got got' X (g1.on h) (g2.on h)
  clear s1 s2 a1 a2 g1 g2
  go_enter Try.func10, Try.ntmps10
  go_wp2_with (fail)
  refine (C1 _ (kA _ _)).mono ?_
  rintro z w1 ⟨rfl, b1⟩
  have D1 := (Cells.made w _ _).on (made_below _ _ b1)
  have D2 := (Cells.made (w.alloc _) _ _).on b1
  have k1 := made_below _ _ (made_below _ _ b1)
  rw [sz] at D2
  clear b1 C1 kA sz
  by_cases h1 : sx = tx
  · rw [decide_eq_true h1]
    have c1 : w1.cell? ⟨w.heap.size, 1, none⟩ = some (.int .i64 e) := (D1.2 1).1
    have d1 : w1.cell? ⟨w.heap.size + 1, 1, none⟩ = some (.int .i64 e') := (D2.2 1).1
    have c2 : w1.cell? ⟨w.heap.size, 2, none⟩ = some (.slice p n c) := (D1.2 2).1
    have d2 : w1.cell? ⟨w.heap.size + 1, 2, none⟩ = some (.slice p' n' c') := (D2.2 2).1
    by_cases h2 : e = e'
    · subst h2
      have hb : (e != e) = false := by simp
      replace h1 : Hid (sx = tx) := h1
      go_wp2_with (fail)
      refine (C2 _ k1).mono ?_
      rintro z w2 ⟨rfl, b2⟩
      have F1 := D1.on b2
      have F2 := D2.on b2
      have k2 := below_on k1 b2
      have c3 : w2.cell? ⟨w.heap.size, 3, none⟩ = some (.slice q m d) := (F1.2 3).1
      have d3 : w2.cell? ⟨w.heap.size + 1, 3, none⟩ = some (.slice q' m' d') := (F2.2 3).1
      clear b2 C2 c1 d1 c2 d2 D1 D2 k1 F1 F2
      by_cases h3 : seen.map RwA.xs = seen'.map RwA.xs
      · rw [decide_eq_true h3]
        replace h3 : Hid (seen.map RwA.xs = seen'.map RwA.xs) := h3
        go_wp2_with (fail)
        refine (C3 _ k2).mono ?_
        rintro z w3 ⟨rfl, b3⟩
        have k3 := below_on k2 b3
        clear b3 k2 C3 c3 d3
        by_cases h4 : got.map RwA.xs = got'.map RwA.xs
        · rw [decide_eq_true h4]
          have hr : R = true := by rw [hR.out, h1.out, h3.out, h4]; simp
          subst hr
          clear hR h4
          go_wp2_with (fail)
          go_ret
          exact ⟨rfl, k3⟩
        · rw [decide_eq_false h4]
          have hr : R = false := by rw [hR.out]; exact decide_eq_false fun k => h4 (by simp only [Prod.mk.injEq] at k; exact k.2.2.2)
          subst hr
          clear hR h4
          go_wp2_with (fail)
          go_ret
          exact ⟨rfl, k3⟩
      · rw [decide_eq_false h3]
        have hr : R = false := by rw [hR.out]; exact decide_eq_false fun k => h3 (by simp only [Prod.mk.injEq] at k; exact k.2.2.1)
        subst hr
        clear hR h3 C3
        go_wp2_with (fail)
        go_ret
        exact ⟨rfl, k2⟩
    · have hb : (e != e') = true := by simp [h2]
      have hr : R = false := by rw [hR.out]; exact decide_eq_false fun k => h2 (by simp only [Prod.mk.injEq] at k; exact k.2.1)
      subst hr
      clear hR h2 h1 C2 C3 c2 d2
      go_wp2_with (fail)
      go_ret
      exact ⟨rfl, k1⟩
  · rw [decide_eq_false h1]
    have hr : R = false := by rw [hR.out]; exact decide_eq_false fun k => h1 (by simp only [Prod.mk.injEq] at k; exact k.1)
    subst hr
    clear hR h1 C2 C3
    go_wp2_with (fail)
    go_ret
    exact ⟨rfl, k1⟩

end Go.Proofs.Ytelfejgpphoifaa
