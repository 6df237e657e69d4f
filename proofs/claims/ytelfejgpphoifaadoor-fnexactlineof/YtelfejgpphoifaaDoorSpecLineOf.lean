/-
  What the specification answers of a line that is read at a place. Conditions: bytes that lie there, as many as a law hands over.
-/
import Derived.Test.YtelfejgpphoifaaDoorImplLineOf
import Derived.Test.YtelfejgpphoifaaDoorWords
namespace Go.Proofs.YtelfejgpphoifaaDoor
open Go.RowKit
set_option maxRecDepth 100000

set_option maxHeartbeats 4000000 in
theorem specLineOf_far (p : Option Addr) (n c : Nat) (at_ : Int) (w : World) (hn : n ≤ 1048576) (ha : at_ ≤ 9223372036854775807) (h : at_ < 0 ∨ (n : Int) - 18 < at_) :
    Calls Tryd.prog 4 #[.slice p n c, .int .i64 at_] w fun e w' => e = .returned (.tuple #[.agg #[.int .i64 0, .string { data := #[] }, .int .i64 0, .int .i64 0, .slice none 0 0], .int .i64 0, .bool false]) ∧ Below w.heap.size w w' := by
  obtain ⟨W, hW⟩ : ∃ W, W = w.alloc (.cells #[.int .i64 0, .string { data := #[] }, .int .i64 0, .int .i64 0, .slice none 0 0] 24) := ⟨_, rfl⟩
  have kA : Below w.heap.size w W := made_eq hW
  have C0 : Cells W w.heap.size #[.int .i64 0, .string { data := #[] }, .int .i64 0, .int .i64 0, .slice none 0 0] := by rw [hW]; exact Cells.made _ _ _
  replace hW : Hid (w.alloc (.cells #[.int .i64 0, .string { data := #[] }, .int .i64 0, .int .i64 0, .slice none 0 0] 24) = W) := hW.symm
  have q0 : (W).cell? ⟨w.heap.size, 0, none⟩ = some (.int .i64 0) := (C0.2 0).1
  have u0 := (C0.2 0).2
  have E1 := C0.set 0 (by simp) (.int .i64 0)
  have q1 : (W.setCell ⟨w.heap.size, 0, none⟩ (.int .i64 0)).cell? ⟨w.heap.size, 1, none⟩ = some (.string { data := #[] }) := (E1.2 1).1
  have u1 := (E1.2 1).2
  have E2 := E1.set 1 (by simp) (.string { data := #[] })
  have q2 : ((W.setCell ⟨w.heap.size, 0, none⟩ (.int .i64 0)).setCell ⟨w.heap.size, 1, none⟩ (.string { data := #[] })).cell? ⟨w.heap.size, 2, none⟩ = some (.int .i64 0) := (E2.2 2).1
  have u2 := (E2.2 2).2
  have E3 := E2.set 2 (by simp) (.int .i64 0)
  have q3 : (((W.setCell ⟨w.heap.size, 0, none⟩ (.int .i64 0)).setCell ⟨w.heap.size, 1, none⟩ (.string { data := #[] })).setCell ⟨w.heap.size, 2, none⟩ (.int .i64 0)).cell? ⟨w.heap.size, 3, none⟩ = some (.int .i64 0) := (E3.2 3).1
  have u3 := (E3.2 3).2
  have E4 := E3.set 3 (by simp) (.int .i64 0)
  have q4 : ((((W.setCell ⟨w.heap.size, 0, none⟩ (.int .i64 0)).setCell ⟨w.heap.size, 1, none⟩ (.string { data := #[] })).setCell ⟨w.heap.size, 2, none⟩ (.int .i64 0)).setCell ⟨w.heap.size, 3, none⟩ (.int .i64 0)).cell? ⟨w.heap.size, 4, none⟩ = some (.slice none 0 0) := (E4.2 4).1
  have u4 := (E4.2 4).2
  have E5 := E4.set 4 (by simp) (.slice none 0 0)
  obtain ⟨X, hX⟩ : ∃ X, X = ((((W.setCell ⟨w.heap.size, 0, none⟩ (.int .i64 0)).setCell ⟨w.heap.size, 1, none⟩ (.string { data := #[] })).setCell ⟨w.heap.size, 2, none⟩ (.int .i64 0)).setCell ⟨w.heap.size, 3, none⟩ (.int .i64 0)).setCell ⟨w.heap.size, 4, none⟩ (.slice none 0 0) := ⟨_, rfl⟩
  rw [← hX] at E5
  have kX : Below w.heap.size w X := by rw [hX]; exact (below_setB (below_setB (below_setB (below_setB (below_setB kA (Nat.le_refl _) _) (Nat.le_refl _) _) (Nat.le_refl _) _) (Nat.le_refl _) _) (Nat.le_refl _) _)
  have e0 : X.cell? ⟨w.heap.size, 0, none⟩ = some (.int .i64 0) := (E5.2 0).1
  have e1 : X.cell? ⟨w.heap.size, 1, none⟩ = some (.string { data := #[] }) := (E5.2 1).1
  have e2 : X.cell? ⟨w.heap.size, 2, none⟩ = some (.int .i64 0) := (E5.2 2).1
  have e3 : X.cell? ⟨w.heap.size, 3, none⟩ = some (.int .i64 0) := (E5.2 3).1
  have e4 : X.cell? ⟨w.heap.size, 4, none⟩ = some (.slice none 0 0) := (E5.2 4).1
  have zX : X.heap.size = W.heap.size := by rw [hX]; simp
  replace hX : Hid (((((W.setCell ⟨w.heap.size, 0, none⟩ (.int .i64 0)).setCell ⟨w.heap.size, 1, none⟩ (.string { data := #[] })).setCell ⟨w.heap.size, 2, none⟩ (.int .i64 0)).setCell ⟨w.heap.size, 3, none⟩ (.int .i64 0)).setCell ⟨w.heap.size, 4, none⟩ (.slice none 0 0) = X) := hX.symm
  clear E1 E2 E3 E4 E5 C0 zX
  by_cases h0 : at_ < 0
  · clear h
    go_enter Tryd.func4, Tryd.ntmps4
    go_wp2_with (first | rw [hW.out] | rw [hX.out])
    refine bodyPost_ret (v := (.tuple #[.agg #[.int .i64 0, .string { data := #[] }, .int .i64 0, .int .i64 0, .slice none 0 0], .int .i64 0, .bool false])) ?_ rfl ⟨rfl, kX⟩
    simp only [results, Tryd.f4]
    go_simp
  · have h1 : (n : Int) - 18 < at_ := by omega
    have hw : IntKind.i64.wrap ((n : Int) - 18) = (n : Int) - 18 := by rw [IntKind.wrap_i64]; omega
    clear h
    go_enter Tryd.func4, Tryd.ntmps4
    go_wp2_with (first | rw [hW.out] | rw [hX.out])
    refine bodyPost_ret (v := (.tuple #[.agg #[.int .i64 0, .string { data := #[] }, .int .i64 0, .int .i64 0, .slice none 0 0], .int .i64 0, .bool false])) ?_ rfl ⟨rfl, kX⟩
    simp only [results, Tryd.f4]
    go_simp

theorem laN_two {bs : List Int} (hb : ∀ x ∈ bs, 0 ≤ x ∧ x < 256) {a : Nat} (h : a + 16 ≤ bs.length) : (laN bs a : Int) = 256 * bs.getD (a + 14) 0 + bs.getD (a + 15) 0 := by
  have h14 := byteL hb (a + 14)
  have h15 := byteL hb (a + 15)
  have e : (bs.drop (a + 14)).take 2 = [bs.getD (a + 14) 0, bs.getD (a + 15) 0] := by
    apply List.ext_getElem
    · simp; omega
    · intro i h1 h2
      have hi : i = 0 ∨ i = 1 := by simp at h2; omega
      rcases hi with rfl | rfl
      · simp [List.getD_eq_getElem?_getD, List.getElem?_eq_getElem (show a + 14 < bs.length by omega)]
      · simp [List.getD_eq_getElem?_getD, List.getElem?_eq_getElem (show a + 15 < bs.length by omega)]
  unfold laN
  rw [e]
  simp only [gN, List.foldl_cons, List.foldl_nil]
  omega


theorem laD_word {bs : List Int} {a : Nat} (h : a + 14 ≤ bs.length) : laD bs a = wordAt true ((bs.drop (a + 10)).take 4) 0 := by
  have hl : ((bs.drop (a + 10)).take 4).length = 4 := by rw [List.length_take, List.length_drop]; omega
  unfold laD
  generalize (bs.drop (a + 10)).take 4 = l at hl
  match l, hl with
  | [x0, x1, x2, x3], _ => simp [gN, wordAt, four]

set_option maxHeartbeats 4000000 in
theorem specLineOf_near (g o n c : Nat) (bs : List Int) (a : Nat) (w : World) (hn : n ≤ 1048576) (hx : bs.length = n) (h : BytesIn w (some ⟨g, o, none⟩) n bs) (hb : ∀ x ∈ bs, 0 ≤ x ∧ x < 256) (ha : a + 18 ≤ n) (hno : ¬ a + 18 + laN bs a ≤ n) :
    Calls Tryd.prog 4 #[.slice (some ⟨g, o, none⟩) n c, .int .i64 (a : Int)] w fun e w' => e = .returned (.tuple #[.agg #[.int .i64 0, .string { data := #[] }, .int .i64 0, .int .i64 0, .slice none 0 0], .int .i64 0, .bool false]) ∧ Below w.heap.size w w' := by
  obtain ⟨W, hW⟩ : ∃ W, W = w.alloc (.cells #[.int .i64 0, .string { data := #[] }, .int .i64 0, .int .i64 0, .slice none 0 0] 24) := ⟨_, rfl⟩
  have kA : Below w.heap.size w W := made_eq hW
  have C0 : Cells W w.heap.size #[.int .i64 0, .string { data := #[] }, .int .i64 0, .int .i64 0, .slice none 0 0] := by rw [hW]; exact Cells.made _ _ _
  replace hW : Hid (w.alloc (.cells #[.int .i64 0, .string { data := #[] }, .int .i64 0, .int .i64 0, .slice none 0 0] 24) = W) := hW.symm
  have hN := laN_lt hb a
  have hN2 := laN_two hb (a := a) (by omega)
  have x14 := byteL hb (a + 14)
  have x15 := byteL hb (a + 15)
  have hh := in_below h kA
  obtain ⟨b', o', e, hcell⟩ := id hh (by omega)
  cases e
  obtain ⟨A14, hA14⟩ : ∃ A, A = a + 14 := ⟨_, rfl⟩
  obtain ⟨A15, hA15⟩ : ∃ A, A = a + 15 := ⟨_, rfl⟩
  have c14 := hcell A14 (by omega)
  have c15 := hcell A15 (by omega)
  rw [← hA14] at x14 hN2
  rw [← hA15] at x15 hN2
  have h1 : ¬ (a : Int) < 0 := by omega
  have h2 : ¬ (n : Int) - 18 < (a : Int) := by omega
  have hw18 : IntKind.i64.wrap ((n : Int) - 18) = (n : Int) - 18 := by rw [IntKind.wrap_i64]; omega
  have w14 : IntKind.i64.wrap ((a : Int) + 14) = (A14 : Int) := by rw [IntKind.wrap_i64]; omega
  have w15 : IntKind.i64.wrap ((a : Int) + 15) = (A15 : Int) := by rw [IntKind.wrap_i64]; omega
  have i14 : (A14 : Int) < (n : Int) := by omega
  have i15 : (A15 : Int) < (n : Int) := by omega
  have p14 : (0 : Int) ≤ (A14 : Int) := by omega
  have p15 : (0 : Int) ≤ (A15 : Int) := by omega
  have hna : IntKind.i64.wrap ((n : Int) - (a : Int)) = (n : Int) - (a : Int) := by rw [IntKind.wrap_i64]; omega
  have hna2 : IntKind.i64.wrap ((n : Int) - (a : Int) - 18) = (n : Int) - (a : Int) - 18 := by rw [IntKind.wrap_i64]; omega
  generalize bs.getD A14 0 = X14 at c14 x14 hN2
  generalize bs.getD A15 0 = X15 at c15 x15 hN2
  have v14 : IntKind.i64.wrap X14 = X14 := by rw [IntKind.wrap_i64]; omega
  have v15 : IntKind.i64.wrap X15 = X15 := by rw [IntKind.wrap_i64]; omega
  have v14m : IntKind.i64.wrap (256 * X14) = 256 * X14 := by rw [IntKind.wrap_i64]; omega
  have v16 : IntKind.i64.wrap (256 * X14 + X15) = (laN bs a : Int) := by rw [IntKind.wrap_i64]; omega
  have HK3 : ∀ w1, Below W.heap.size W w1 → w1.cell? ⟨g, o + A14, none⟩ = some (.int .u8 X14) ∧ w1.cell? ⟨g, o + A15, none⟩ = some (.int .u8 X15) := fun w1 hX => ⟨(hX.cell (World.block_lt_of_cell? W _ c14)).trans c14, (hX.cell (World.block_lt_of_cell? W _ c15)).trans c15⟩
  have bdr3 : Below W.heap.size W W.drew := (Below.refl _ _).drew
  have h4 : (n : Int) - (a : Int) - 18 < (laN bs a : Int) := by omega
  generalize laN bs a = M at h4 v16 hN2 hN
  clear hcell hh h hb hx hno hA14 hA15 hN2 c14 c15
  go_enter Tryd.func4, Tryd.ntmps4
  go_wp2_with (rw [hW.out])
  go_region_held3 (fun w1 => w1.cell? ⟨g, o + A14, none⟩ = some (.int .u8 X14) ∧ w1.cell? ⟨g, o + A15, none⟩ = some (.int .u8 X15)) (exact HK3 _ (by repeat (with_reducible (first | exact Below.refl _ _ | refine below_drewL ?_)))) (first | fail)
  obtain ⟨V, hV⟩ : ∃ V, V = W.drew := ⟨_, rfl⟩
  rw [← hV]
  have C1 : Cells V w.heap.size #[.int .i64 0, .string { data := #[] }, .int .i64 0, .int .i64 0, .slice none 0 0] := by rw [hV]; exact C0.on bdr3
  have kD : Below w.heap.size w V := by rw [hV]; exact below_on kA bdr3
  clear hV C0 HK3 bdr3 kA
  have q0 : (V).cell? ⟨w.heap.size, 0, none⟩ = some (.int .i64 0) := (C1.2 0).1
  have u0 := (C1.2 0).2
  have E1 := C1.set 0 (by simp) (.int .i64 0)
  have q1 : (V.setCell ⟨w.heap.size, 0, none⟩ (.int .i64 0)).cell? ⟨w.heap.size, 1, none⟩ = some (.string { data := #[] }) := (E1.2 1).1
  have u1 := (E1.2 1).2
  have E2 := E1.set 1 (by simp) (.string { data := #[] })
  have q2 : ((V.setCell ⟨w.heap.size, 0, none⟩ (.int .i64 0)).setCell ⟨w.heap.size, 1, none⟩ (.string { data := #[] })).cell? ⟨w.heap.size, 2, none⟩ = some (.int .i64 0) := (E2.2 2).1
  have u2 := (E2.2 2).2
  have E3 := E2.set 2 (by simp) (.int .i64 0)
  have q3 : (((V.setCell ⟨w.heap.size, 0, none⟩ (.int .i64 0)).setCell ⟨w.heap.size, 1, none⟩ (.string { data := #[] })).setCell ⟨w.heap.size, 2, none⟩ (.int .i64 0)).cell? ⟨w.heap.size, 3, none⟩ = some (.int .i64 0) := (E3.2 3).1
  have u3 := (E3.2 3).2
  have E4 := E3.set 3 (by simp) (.int .i64 0)
  have q4 : ((((V.setCell ⟨w.heap.size, 0, none⟩ (.int .i64 0)).setCell ⟨w.heap.size, 1, none⟩ (.string { data := #[] })).setCell ⟨w.heap.size, 2, none⟩ (.int .i64 0)).setCell ⟨w.heap.size, 3, none⟩ (.int .i64 0)).cell? ⟨w.heap.size, 4, none⟩ = some (.slice none 0 0) := (E4.2 4).1
  have u4 := (E4.2 4).2
  have E5 := E4.set 4 (by simp) (.slice none 0 0)
  obtain ⟨X, hX⟩ : ∃ X, X = ((((V.setCell ⟨w.heap.size, 0, none⟩ (.int .i64 0)).setCell ⟨w.heap.size, 1, none⟩ (.string { data := #[] })).setCell ⟨w.heap.size, 2, none⟩ (.int .i64 0)).setCell ⟨w.heap.size, 3, none⟩ (.int .i64 0)).setCell ⟨w.heap.size, 4, none⟩ (.slice none 0 0) := ⟨_, rfl⟩
  rw [← hX] at E5
  have kX : Below w.heap.size w X := by rw [hX]; exact (below_setB (below_setB (below_setB (below_setB (below_setB kD (Nat.le_refl _) _) (Nat.le_refl _) _) (Nat.le_refl _) _) (Nat.le_refl _) _) (Nat.le_refl _) _)
  have e0 : X.cell? ⟨w.heap.size, 0, none⟩ = some (.int .i64 0) := (E5.2 0).1
  have e1 : X.cell? ⟨w.heap.size, 1, none⟩ = some (.string { data := #[] }) := (E5.2 1).1
  have e2 : X.cell? ⟨w.heap.size, 2, none⟩ = some (.int .i64 0) := (E5.2 2).1
  have e3 : X.cell? ⟨w.heap.size, 3, none⟩ = some (.int .i64 0) := (E5.2 3).1
  have e4 : X.cell? ⟨w.heap.size, 4, none⟩ = some (.slice none 0 0) := (E5.2 4).1
  have zX : X.heap.size = V.heap.size := by rw [hX]; simp
  replace hX : Hid (((((V.setCell ⟨w.heap.size, 0, none⟩ (.int .i64 0)).setCell ⟨w.heap.size, 1, none⟩ (.string { data := #[] })).setCell ⟨w.heap.size, 2, none⟩ (.int .i64 0)).setCell ⟨w.heap.size, 3, none⟩ (.int .i64 0)).setCell ⟨w.heap.size, 4, none⟩ (.slice none 0 0) = X) := hX.symm
  clear E1 E2 E3 E4 E5 C1 zX
  go_wp2_with (rw [hX.out])
  refine bodyPost_ret (v := (.tuple #[.agg #[.int .i64 0, .string { data := #[] }, .int .i64 0, .int .i64 0, .slice none 0 0], .int .i64 0, .bool false])) ?_ rfl ⟨rfl, kX⟩
  simp only [results, Tryd.f4]
  go_simp

end Go.Proofs.YtelfejgpphoifaaDoor
