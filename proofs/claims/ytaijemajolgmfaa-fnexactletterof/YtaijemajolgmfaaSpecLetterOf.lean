/-
  What the specification's LetterOf answers at any bytes. Conditions: bytes all; a capacity that is not less than the length.
-/
import Derived.Test.YtaijemajolgmfaaLetterOf
namespace Go.Proofs.Ytaijemajolgmfaa
open Go.RowKit
set_option maxRecDepth 100000

theorem size_allocP (W : World) (o : Obj) : (W.alloc o).heap.size = W.heap.size + 1 := by simp
theorem below_allocP {a w : World} (h : Below a.heap.size a w) (o : Obj) : Below a.heap.size a (w.alloc o) := h.alloc h.size o
theorem below_drewP {a w : World} (h : Below a.heap.size a w) : Below a.heap.size a w.drew := h.drew
theorem below_setP {a w : World} (h : Below a.heap.size a w) {x : Addr} (hx : a.heap.size ≤ x.block) (v : Value) : Below a.heap.size a (w.setCell x v) := h.setCell hx v

set_option maxHeartbeats 4000000 in
theorem specLetterOf_no (p : Option Addr) (n c : Nat) (bs : List Int) (w : World) (hx : bs.length = n) (h : BytesIn w p n bs) (hbig : n ≤ 9223372036854775807) (hk : ¬ loOk bs) :
    Calls Try.prog 28 #[.slice p n c] w fun e w' => ∃ p c q d, e = .returned (.tuple #[.agg #[.int .i64 0, .slice p 0 c, .slice q 0 d], .bool false]) ∧ Pair w' w.heap.size p q c d 0 0 [] [] ∧ Below w.heap.size w w' := by
  obtain ⟨W, hW⟩ : ∃ W, W = w.alloc (.cells #[.int .i64 0, .slice none 0 0, .slice none 0 0] 33) := ⟨_, rfl⟩
  have kA : Below w.heap.size w W := by rw [hW]; exact made_below _ _ (Below.refl _ _)
  have CR : Cells W w.heap.size #[.int .i64 0, .slice none 0 0, .slice none 0 0] := by rw [hW]; exact Cells.made _ _ _
  replace hW : Hid (w.alloc (.cells #[.int .i64 0, .slice none 0 0, .slice none 0 0] 33) = W) := hW.symm
  have q0 : W.cell? ⟨w.heap.size, 0, none⟩ = some (.int .i64 0) := (CR.2 0).1
  have u0 := (CR.2 0).2
  have F1 := CR.set 0 (by simp) (.int .i64 0)
  have q1 : (W.setCell ⟨w.heap.size, 0, none⟩ (.int .i64 0)).cell? ⟨w.heap.size, 1, none⟩ = some (.slice none 0 0) := (F1.2 1).1
  have u1 := (F1.2 1).2
  have F2 := F1.set 1 (by simp) (.slice none 0 0)
  have q2 : ((W.setCell ⟨w.heap.size, 0, none⟩ (.int .i64 0)).setCell ⟨w.heap.size, 1, none⟩ (.slice none 0 0)).cell? ⟨w.heap.size, 2, none⟩ = some (.slice none 0 0) := (F2.2 2).1
  have u2 := (F2.2 2).2
  have F3 := F2.set 2 (by simp) (.slice none 0 0)
  obtain ⟨X3, hX3⟩ : ∃ X3, X3 = ((W.setCell ⟨w.heap.size, 0, none⟩ (.int .i64 0)).setCell ⟨w.heap.size, 1, none⟩ (.slice none 0 0)).setCell ⟨w.heap.size, 2, none⟩ (.slice none 0 0) := ⟨_, rfl⟩
  have kX3 : Below w.heap.size w X3 := by rw [hX3]; exact ((kA.setCell (by show w.heap.size ≤ w.heap.size; omega) _).setCell (by show w.heap.size ≤ w.heap.size; omega) _).setCell (by show w.heap.size ≤ w.heap.size; omega) _
  rw [← hX3] at F3
  replace hX3 : Hid (((W.setCell ⟨w.heap.size, 0, none⟩ (.int .i64 0)).setCell ⟨w.heap.size, 1, none⟩ (.slice none 0 0)).setCell ⟨w.heap.size, 2, none⟩ (.slice none 0 0) = X3) := hX3.symm
  have y0 : X3.cell? ⟨w.heap.size, 0, none⟩ = some (.int .i64 0) := (F3.2 0).1
  have y1 : X3.cell? ⟨w.heap.size, 1, none⟩ = some (.slice none 0 0) := (F3.2 1).1
  have y2 : X3.cell? ⟨w.heap.size, 2, none⟩ = some (.slice none 0 0) := (F3.2 2).1
  have fin : Hid (Pair X3 w.heap.size none none 0 0 0 0 [] []) := Pair.none _ _ kX3.size
  clear F1 F2 F3 CR
  by_cases g1 : (n : Int) < 51
  · clear h hk hx
    go_enter Try.func28, Try.ntmps28
    go_wp2_with (first | rw [hX3.out] | rw [hW.out])
    refine bodyPost_ret (v := .tuple #[.agg #[.int .i64 0, .slice none 0 0, .slice none 0 0], .bool false]) ?_ rfl ⟨_, _, _, _, rfl, ?_, ?_⟩
    · simp only [results, Try.f28]
      go_simp
    · exact fin.out
    · exact kX3
  · by_cases g2 : (1551 : Int) < (n : Int)
    · clear h hk hx
      go_enter Try.func28, Try.ntmps28
      go_wp2_with (first | rw [hX3.out] | rw [hW.out])
      refine bodyPost_ret (v := .tuple #[.agg #[.int .i64 0, .slice none 0 0, .slice none 0 0], .bool false]) ?_ rfl ⟨_, _, _, _, rfl, ?_, ?_⟩
      · simp only [results, Try.f28]
        go_simp
      · exact fin.out
      · exact kX3
    · obtain ⟨b, o, rfl, hcell⟩ := h (by omega)
      have hu : (bs.getD 0 0 != 1) = true := by
        have : bs.getD 0 0 ≠ 1 := fun e => hk ⟨by omega, by omega, e⟩
        simpa using this
      have h0 := hcell 0 (by omega)
      rw [Nat.add_zero] at h0
      have k0 : W.cell? ⟨b, o, none⟩ = some (.int .u8 (bs.getD 0 0)) := (kA.cell (p := ⟨b, o, none⟩) (World.block_lt_of_cell? w ⟨b, o, none⟩ h0)).trans h0
      generalize bs.getD 0 0 = u at hu k0
      have g3 : (0 : Int) < (n : Int) := by omega
      clear h hk hx hcell h0
      go_enter Try.func28, Try.ntmps28
      go_wp2_with (first | rw [hX3.out] | rw [hW.out])
      refine bodyPost_ret (v := .tuple #[.agg #[.int .i64 0, .slice none 0 0, .slice none 0 0], .bool false]) ?_ rfl ⟨_, _, _, _, rfl, ?_, ?_⟩
      · simp only [results, Try.f28]
        go_simp
      · exact fin.out
      · exact kX3

set_option maxHeartbeats 8000000 in
theorem specLetterOf_yes (b o n c : Nat) (bs : List Int) (w : World) (hx : bs.length = n) (h : BytesIn w (some ⟨b, o, none⟩) n bs) (hb : ∀ x ∈ bs, 0 ≤ x ∧ x < 256) (hc : n ≤ c) (hk : loOk bs) :
    Calls Try.prog 28 #[.slice (some ⟨b, o, none⟩) n c] w fun e w' => ∃ p c q d, e = .returned (.tuple #[.agg #[.int .i64 (256 * bs.getD 1 0 + bs.getD 2 0), .slice p 32 c, .slice q (n - 35) d], .bool true]) ∧ Pair w' w.heap.size p q c d 32 (n - 35) ((bs.drop 3).take 32) (bs.drop 35) ∧ Below w.heap.size w w' := by
  obtain ⟨i0, hi, hz0, hz1, hz2⟩ := info_parts infoByte
  have hn1 : 51 ≤ n := by rw [← hx]; exact hk.1
  have hn2 : n ≤ 1551 := by rw [← hx]; exact hk.2.1
  have h1 : bs.getD 0 0 = 1 := hk.2.2
  obtain ⟨M, hM⟩ : ∃ M, M = n - 35 := ⟨_, rfl⟩
  have x1 := byteL hb 1
  have x2 := byteL hb 2
  obtain ⟨W, hW⟩ : ∃ W, W = w.alloc (.cells #[.int .i64 0, .slice none 0 0, .slice none 0 0] 33) := ⟨_, rfl⟩
  have kA : Below w.heap.size w W := by rw [hW]; exact made_below _ _ (Below.refl _ _)
  have zW : Hid (W.heap.size = w.heap.size + 1) := by rw [hW]; exact size_allocP _ _
  have zA := kA.size
  have CR : Cells W w.heap.size #[.int .i64 0, .slice none 0 0, .slice none 0 0] := by rw [hW]; exact Cells.made _ _ _
  replace hW : Hid (w.alloc (.cells #[.int .i64 0, .slice none 0 0, .slice none 0 0] 33) = W) := hW.symm
  obtain ⟨b', o', e, hcell⟩ := id h (by omega)
  cases e
  have hlt := World.block_lt_of_cell? w ⟨b, o + 0, none⟩ (hcell 0 (by omega))
  have HK : ∀ V, Below w.heap.size w V → V.cell? ⟨b, o + 1, none⟩ = some (.int .u8 (bs.getD 1 0)) ∧ V.cell? ⟨b, o + 2, none⟩ = some (.int .u8 (bs.getD 2 0)) := fun V hV => ⟨(hV.cell (p := ⟨b, o + 1, none⟩) hlt).trans (hcell 1 (by omega)), (hV.cell (p := ⟨b, o + 2, none⟩) hlt).trans (hcell 2 (by omega))⟩
  have k0 : W.cell? ⟨b, o, none⟩ = some (.int .u8 1) := by
    have := (kA.cell (p := ⟨b, o + 0, none⟩) hlt).trans (hcell 0 (by omega))
    rw [h1] at this
    exact this
  have s3 := cut_mid b o n c 3 35 (by omega) (by omega) (by omega) (by omega)
  have s35 := cut_from b o n c 35 (by omega) (by omega) (by omega)
  have i3 : BytesIn W (some ⟨b, o + 3, none⟩) 32 ((bs.drop 3).take 32) := in_cut (in_below h kA) 3 32 (by omega)
  have i35 : BytesIn W (some ⟨b, o + 35, none⟩) M (bs.drop 35) := by
    have := in_cut (in_below h kA) 35 M (by omega)
    rwa [List.take_of_length_le (by rw [List.length_drop]; omega)] at this
  have l3 : ((bs.drop 3).take 32).length = 32 := by rw [List.length_take, List.length_drop]; omega
  have l35 : (bs.drop 35).length = M := by rw [List.length_drop]; omega
  rw [← hM]
  rw [← hM] at s35
  obtain ⟨X, hX⟩ : ∃ X, X = (bs.drop 3).take 32 := ⟨_, rfl⟩
  obtain ⟨Y, hY⟩ : ∃ Y, Y = bs.drop 35 := ⟨_, rfl⟩
  obtain ⟨t, ht⟩ : ∃ t, 256 * bs.getD 1 0 = t := ⟨_, rfl⟩
  obtain ⟨E, hE⟩ : ∃ E, t + bs.getD 2 0 = E := ⟨_, rfl⟩
  have ht1 : 0 ≤ t ∧ t ≤ 65280 := by omega
  have hE1 : 0 ≤ E ∧ E ≤ 65535 := by omega
  rw [← hX] at i3 l3
  rw [← hY] at i35 l35
  rw [ht, hE, ← hX, ← hY]
  generalize bs.getD 1 0 = v1 at HK x1 ht
  generalize bs.getD 2 0 = v2 at HK x2 hE
  obtain ⟨o3, ho3⟩ : ∃ o3, o3 = o + 3 := ⟨_, rfl⟩
  obtain ⟨o35, ho35⟩ : ∃ o35, o35 = o + 35 := ⟨_, rfl⟩
  obtain ⟨c3, hc3⟩ : ∃ c3, c3 = c - 3 := ⟨_, rfl⟩
  obtain ⟨c35, hc35⟩ : ∃ c35, c35 = c - 35 := ⟨_, rfl⟩
  rw [← ho35, ← hc35] at s35
  rw [← ho3, ← hc3] at s3
  rw [← ho3] at i3
  rw [← ho35] at i35
  have g1 : ¬ (n : Int) < 51 := by omega
  have g2 : ¬ (1551 : Int) < (n : Int) := by omega
  have g3 : (1 : Int) < (n : Int) := by omega
  have g4 : (2 : Int) < (n : Int) := by omega
  have hM1 : 0 < M := by omega
  have hM2 : M ≤ 1048576 := by omega
  have hw1 : IntKind.i64.wrap v1 = v1 := by rw [IntKind.wrap_i64]; omega
  have hw2 : IntKind.i64.wrap v2 = v2 := by rw [IntKind.wrap_i64]; omega
  have hw3 : IntKind.i64.wrap t = t := by rw [IntKind.wrap_i64]; omega
  have hw4 : IntKind.i64.wrap E = E := by rw [IntKind.wrap_i64]; omega
  clear hX hY hM ho3 ho35 hc3 hc35 hk h1 h hx hb hcell hlt
  replace s3 : ∀ V, (Instr.slice 22 (.slice (some ⟨b, o, none⟩) n c) (some (.int .i64 3)) (some (.int .i64 35)) none).run Try.prog V = .ok (.slice (some ⟨b, o3, none⟩) 32 c3) V := s3
  replace s35 : ∀ V, (Instr.slice 22 (.slice (some ⟨b, o, none⟩) n c) (some (.int .i64 35)) none none).run Try.prog V = .ok (.slice (some ⟨b, o35, none⟩) M c35) V := s35
  go_enter Try.func28, Try.ntmps28
  go_wp2_with (rw [hW.out])
  go_region_held3 (fun w' => w'.cell? ⟨b, o + 1, none⟩ = some (.int .u8 v1) ∧ w'.cell? ⟨b, o + 2, none⟩ = some (.int .u8 v2)) (exact HK _ (by repeat (with_reducible (first | exact kA | exact kba | exact kbb | refine below_drewP ?_ | refine below_allocP ?_ _ | refine below_setP ?_ (Nat.le_refl _) _)))) (first | (refine step_fresh (w0 := W) (lo := W.heap.size) hi hz0 hz1 hz2 (.tmp 29) (.tmp 31) 22 Try.underlying22 (by rfl) (by rfl) (by rfl) (by rfl) (by repeat (with_reducible (first | exact emp_made _ _ rfl | exact emp_made _ _ (size_allocP _ _) | refine emp_alloc ?_ _ | refine emp_drew ?_ | refine emp_grown ?_ gga (by omega) | refine emp_grown ?_ ggb (by omega)))) (in_below i3 (by repeat (with_reducible (first | exact Below.refl _ _ | exact ba | exact bb | refine below_drewP ?_ | refine below_allocP ?_ _)))) l3 (by decide) (by decide) (by repeat (with_reducible (first | exact Below.refl _ _ | exact ba | exact bb | refine below_drewP ?_ | refine below_allocP ?_ _))) (by omega) ?_; intro ga ca wa ra la lta za gga ba; have sa := ba.size; have kba := below_on kA ba; have Ca := CR.on ba; have qa0 : wa.cell? ⟨w.heap.size, 0, none⟩ = some (.int .i64 0) := (Ca.2 0).1; have ua0 := (Ca.2 0).2; try (have Fa1 := Ca.set 0 (by simp) (.int .i64 E); have qa1 : (wa.setCell ⟨w.heap.size, 0, none⟩ (.int .i64 E)).cell? ⟨w.heap.size, 1, none⟩ = some (.slice none 0 0) := (Fa1.2 1).1; have ua1 := (Fa1.2 1).2; have Fa2 := Fa1.set 1 (by simp) (.slice (some ⟨ga, 0, none⟩) 32 ca); have qa2 : ((wa.setCell ⟨w.heap.size, 0, none⟩ (.int .i64 E)).setCell ⟨w.heap.size, 1, none⟩ (.slice (some ⟨ga, 0, none⟩) 32 ca)).cell? ⟨w.heap.size, 2, none⟩ = some (.slice none 0 0) := (Fa2.2 2).1; have ua2 := (Fa2.2 2).2)) | (refine step_fresh (w0 := W) (lo := W.heap.size) hi hz0 hz1 hz2 (.tmp 33) (.tmp 35) 22 Try.underlying22 (by rfl) (by rfl) (by rfl) (by rfl) (by repeat (with_reducible (first | exact emp_made _ _ rfl | exact emp_made _ _ (size_allocP _ _) | refine emp_alloc ?_ _ | refine emp_drew ?_ | refine emp_grown ?_ gga (by omega) | refine emp_grown ?_ ggb (by omega)))) (in_below i35 (by repeat (with_reducible (first | exact Below.refl _ _ | exact ba | exact bb | refine below_drewP ?_ | refine below_allocP ?_ _)))) l35 hM1 hM2 (by repeat (with_reducible (first | exact Below.refl _ _ | exact ba | exact bb | refine below_drewP ?_ | refine below_allocP ?_ _))) (by omega) ?_; intro gc cc wc rb lb ltb zb ggb bb; have sb := bb.size; have kbb := below_on kA bb; have Cb := CR.on bb; have qb0 : wc.cell? ⟨w.heap.size, 0, none⟩ = some (.int .i64 0) := (Cb.2 0).1; have ub0 := (Cb.2 0).2; try (have Fb1 := Cb.set 0 (by simp) (.int .i64 E); have qb1 : (wc.setCell ⟨w.heap.size, 0, none⟩ (.int .i64 E)).cell? ⟨w.heap.size, 1, none⟩ = some (.slice none 0 0) := (Fb1.2 1).1; have ub1 := (Fb1.2 1).2; have Fb2 := Fb1.set 1 (by simp) (.slice (some ⟨ga, 0, none⟩) 32 ca); have qb2 : ((wc.setCell ⟨w.heap.size, 0, none⟩ (.int .i64 E)).setCell ⟨w.heap.size, 1, none⟩ (.slice (some ⟨ga, 0, none⟩) 32 ca)).cell? ⟨w.heap.size, 2, none⟩ = some (.slice none 0 0) := (Fb2.2 2).1; have ub2 := (Fb2.2 2).2)))
  all_goals
    have zw := zW.out
    simp only [size_allocP, World.drew] at la lb za zb
    have F3 := Fb2.set 2 (by simp) (.slice (some ⟨gc, 0, none⟩) M cc)
    have Ra : RowAt wc ga ca 32 X := by
      first
        | exact rowAt_grown (rowAt_alloc ra _) ggb (by omega)
        | exact rowAt_grown ra ggb (by omega)
    obtain ⟨X3, hX3⟩ : ∃ X3, X3 = ((wc.setCell ⟨w.heap.size, 0, none⟩ (.int .i64 E)).setCell ⟨w.heap.size, 1, none⟩ (.slice (some ⟨ga, 0, none⟩) 32 ca)).setCell ⟨w.heap.size, 2, none⟩ (.slice (some ⟨gc, 0, none⟩) M cc) := ⟨_, rfl⟩
    have kX3 : Below w.heap.size w X3 := by rw [hX3]; exact below_setP (below_setP (below_setP kbb (Nat.le_refl _) _) (Nat.le_refl _) _) (Nat.le_refl _) _
    have zX3 : X3.heap.size = wc.heap.size := by rw [hX3]; simp
    have Pa := ((Ra.own.set_below (a := ⟨w.heap.size, 0, none⟩) (by show w.heap.size < ga; omega) (.int .i64 E)).set_below (a := ⟨w.heap.size, 1, none⟩) (by show w.heap.size < ga; omega) (.slice (some ⟨ga, 0, none⟩) 32 ca)).set_below (a := ⟨w.heap.size, 2, none⟩) (by show w.heap.size < ga; omega) (.slice (some ⟨gc, 0, none⟩) M cc)
    have Pb := ((rb.own.set_below (a := ⟨w.heap.size, 0, none⟩) (by show w.heap.size < gc; omega) (.int .i64 E)).set_below (a := ⟨w.heap.size, 1, none⟩) (by show w.heap.size < gc; omega) (.slice (some ⟨ga, 0, none⟩) 32 ca)).set_below (a := ⟨w.heap.size, 2, none⟩) (by show w.heap.size < gc; omega) (.slice (some ⟨gc, 0, none⟩) M cc)
    rw [← hX3] at F3 Pa Pb
    have fin : Hid (Pair X3 w.heap.size (some ⟨ga, 0, none⟩) (some ⟨gc, 0, none⟩) ca cc 32 M X Y) := ⟨_, _, _, _, Pa, Pb, ⟨by omega, by omega⟩, ⟨by omega, by omega⟩, by omega⟩
    have y0 : X3.cell? ⟨w.heap.size, 0, none⟩ = some (.int .i64 E) := (F3.2 0).1
    have y1 : X3.cell? ⟨w.heap.size, 1, none⟩ = some (.slice (some ⟨ga, 0, none⟩) 32 ca) := (F3.2 1).1
    have y2 : X3.cell? ⟨w.heap.size, 2, none⟩ = some (.slice (some ⟨gc, 0, none⟩) M cc) := (F3.2 2).1
    rw [← hX3]
    clear hX3 F3 Pa Pb Ra zX3 zw la lb za zb
    go_wp2_with (fail)
    refine bodyPost_ret (v := .tuple #[.agg #[.int .i64 E, .slice (some ⟨ga, 0, none⟩) 32 ca, .slice (some ⟨gc, 0, none⟩) M cc], .bool true]) ?_ rfl ⟨_, _, _, _, rfl, ?_, ?_⟩
    · simp only [results, Try.f28]
      go_simp
    · exact fin.out
    · exact kX3

theorem specLetterOf_any (p : Option Addr) (n c : Nat) (bs : List Int) (w : World) (hn0 : n ≤ 1048576) (hx : bs.length = n) (h : BytesIn w p n bs) (hb : ∀ x ∈ bs, 0 ≤ x ∧ x < 256) (hc : n ≤ c) :
    Calls Try.prog 28 #[.slice p n c] w fun e w' => ∃ p c q d, e = .returned (.tuple #[.agg #[.int .i64 (loE bs), .slice p (loN bs) c, .slice q (loM bs) d], .bool (decide (loOk bs))]) ∧ Pair w' w.heap.size p q c d (loN bs) (loM bs) (loX bs) (loY bs) ∧ Below w.heap.size w w' := by
  by_cases hk : loOk bs
  · rw [loE, loN, loM, loX, loY, if_pos hk, if_pos hk, if_pos hk, if_pos hk, if_pos hk, decide_eq_true hk, hx]
    obtain ⟨b, o, rfl, _⟩ := h (by have := hk.1; omega)
    exact specLetterOf_yes b o n c bs w hx h hb hc hk
  · rw [loE, loN, loM, loX, loY, if_neg hk, if_neg hk, if_neg hk, if_neg hk, if_neg hk, decide_eq_false hk]
    exact specLetterOf_no p n c bs w hx h (by omega) hk

end Go.Proofs.Ytaijemajolgmfaa
