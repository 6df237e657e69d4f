/-
  What the program's LetterOf answers at any bytes. Conditions: bytes all; a capacity that is not less than the length.
  What the specification's LetterOf answers at any bytes. Conditions: bytes all; a capacity that is not less than the length.
-/
import Derived.Test.YtdjdanpicbaieaaDoorPart03
import Derived.Test.YtdjdanpicbaieaaDoorPart02
import Derived.Deep.RegionHeld3
namespace Go.Proofs.YtdjdanpicbaieaaDoor
open Go.RowKit
set_option maxRecDepth 100000

/-- Bytes that are a letter's. -/
def loOk (bs : List Int) : Prop := 51 ≤ bs.length ∧ bs.length ≤ 1551 ∧ bs.getD 0 0 = 1
instance (bs : List Int) : Decidable (loOk bs) := by unfold loOk; infer_instance
def loE (bs : List Int) : Int := if loOk bs then 256 * bs.getD 1 0 + bs.getD 2 0 else 0
def loN (bs : List Int) : Nat := if loOk bs then 32 else 0
def loM (bs : List Int) : Nat := if loOk bs then bs.length - 35 else 0
def loX (bs : List Int) : List Int := if loOk bs then (bs.drop 3).take 32 else []
def loY (bs : List Int) : List Int := if loOk bs then bs.drop 35 else []
theorem loN_le (bs : List Int) : loN bs ≤ 32 := by rw [loN]; split <;> omega
theorem loM_le (bs : List Int) : loM bs ≤ 1516 := by
  rw [loM]
  split
  · rename_i h
    have := h.2.1
    omega
  · omega

/-- The first h of a slice. -/
theorem cut_to (b j m cc h : Nat) (hc : h ≤ cc) : ∀ W, (Instr.slice 22 (.slice (some ⟨b, j, none⟩) m cc) none (some (.int .i64 (h : Int))) none).run Tryd.prog W = .ok (.slice (some ⟨b, j, none⟩) h cc) W := fun W => by
  have ht' : Tryd.prog.underlying 22 = some (.slice (Tryd.prog.elem 22)) := by simp [Program.elem, Tryd.underlying22]
  have he : Tryd.prog.elem 22 = 5 := by simp [Program.elem, Tryd.underlying22]
  obtain ⟨i0, hi, hz0, hz1, hz2⟩ := info_parts infoByte
  rw [run_slice_h W 22 _ _ _ ht' .i64 h (by omega) (by omega), he]
  simp [sizeOf, typeInfo, hi, sliced, Addr.add]
/-- What is behind the first l. -/
theorem cut_from (b j m cc l : Nat) (h0 : 0 < l) (h : l ≤ m) (hl : l < cc) : ∀ W, (Instr.slice 22 (.slice (some ⟨b, j, none⟩) m cc) (some (.int .i64 (l : Int))) none none).run Tryd.prog W = .ok (.slice (some ⟨b, j + l, none⟩) (m - l) (cc - l)) W := fun W => by
  have ht' : Tryd.prog.underlying 22 = some (.slice (Tryd.prog.elem 22)) := by simp [Program.elem, Tryd.underlying22]
  have he : Tryd.prog.elem 22 = 5 := by simp [Program.elem, Tryd.underlying22]
  obtain ⟨i0, hi, hz0, hz1, hz2⟩ := info_parts infoByte
  rw [run_slice_l W 22 _ _ _ ht' .i64 l (by omega) (by omega), he]
  have e : ¬ cc = l := by omega
  simp [sizeOf, typeInfo, hi, hz1, sliced, Addr.add, show l ≠ 0 by omega, e]
/-- From l to h. -/
theorem cut_mid (b j m cc l h : Nat) (h0 : 0 < l) (hlh : l ≤ h) (hc : h ≤ cc) (hl : l < cc) : ∀ W, (Instr.slice 22 (.slice (some ⟨b, j, none⟩) m cc) (some (.int .i64 (l : Int))) (some (.int .i64 (h : Int))) none).run Tryd.prog W = .ok (.slice (some ⟨b, j + l, none⟩) (h - l) (cc - l)) W := fun W => by
  have ht' : Tryd.prog.underlying 22 = some (.slice (Tryd.prog.elem 22)) := by simp [Program.elem, Tryd.underlying22]
  have he : Tryd.prog.elem 22 = 5 := by simp [Program.elem, Tryd.underlying22]
  obtain ⟨i0, hi, hz0, hz1, hz2⟩ := info_parts infoByte
  rw [run_slice_lh W 22 _ _ _ ht' .i64 .i64 l h (by omega) (by omega) (by omega), he]
  have e : ¬ cc = l := by omega
  simp [sizeOf, typeInfo, hi, hz1, sliced, Addr.add, show l ≠ 0 by omega, e]
theorem byteL {bs : List Int} (hb : ∀ x ∈ bs, 0 ≤ x ∧ x < 256) (i : Nat) : 0 ≤ bs.getD i 0 ∧ bs.getD i 0 < 256 := by
  rw [List.getD_eq_getElem?_getD]
  cases e : bs[i]? with
  | none => simp
  | some v => exact hb v (List.mem_of_getElem? e)
/-- A part of bytes that lie there. -/
theorem in_cut {w : World} {b o n : Nat} {bs : List Int} (h : BytesIn w (some ⟨b, o, none⟩) n bs) (l k : Nat) (hk : l + k ≤ n) : BytesIn w (some ⟨b, o + l, none⟩) k ((bs.drop l).take k) := fun h0 => by
  obtain ⟨b', o', e, hc⟩ := h (by omega)
  cases e
  refine ⟨b, o + l, rfl, fun i hi => ?_⟩
  rw [Nat.add_assoc, hc (l + i) (by omega)]
  simp [List.getD_eq_getElem?_getD, List.getElem?_drop, hi]

set_option maxHeartbeats 4000000 in
theorem implLetterOf_yes (b o n c : Nat) (bs : List Int) (w : World) (hx : bs.length = n) (h : BytesIn w (some ⟨b, o, none⟩) n bs) (hb : ∀ x ∈ bs, 0 ≤ x ∧ x < 256) (hc : n ≤ c) (hk : loOk bs) :
    Calls Tryd.prog 18 #[.slice (some ⟨b, o, none⟩) n c] w fun e w' => ∃ p c q d, e = .returned (.tuple #[.agg #[.int .i64 (256 * bs.getD 1 0 + bs.getD 2 0), .slice p 32 c, .slice q (n - 35) d], .bool true]) ∧ Pair w' w.heap.size p q c d 32 (n - 35) ((bs.drop 3).take 32) (bs.drop 35) ∧ Below w.heap.size w w' := by
  have hn1 : 51 ≤ n := by rw [← hx]; exact hk.1
  have hn2 : n ≤ 1551 := by rw [← hx]; exact hk.2.1
  have h1 : bs.getD 0 0 = 1 := hk.2.2
  obtain ⟨M, hM⟩ : ∃ M, M = n - 35 := ⟨_, rfl⟩
  have x1 := byteL hb 1
  have x2 := byteL hb 2
  obtain ⟨W, hW⟩ : ∃ W, W = w.alloc (.cells #[.int .i64 0, .slice none 0 0, .slice none 0 0] 31) := ⟨_, rfl⟩
  have kA : Below w.heap.size w W := by rw [hW]; exact made_below _ _ (Below.refl _ _)
  have CR : Cells W w.heap.size #[.int .i64 0, .slice none 0 0, .slice none 0 0] := by rw [hW]; exact Cells.made _ _ _
  replace hW : Hid (w.alloc (.cells #[.int .i64 0, .slice none 0 0, .slice none 0 0] 31) = W) := hW.symm
  have hh := in_below h kA
  have k0 : W.cell? ⟨b, o, none⟩ = some (.int .u8 1) := by
    obtain ⟨b', o', e, hcell⟩ := hh (by omega)
    cases e
    have := hcell 0 (by omega)
    rw [h1] at this
    exact this
  have s1 := cut_to b o n c 35 (by omega)
  have s2 := cut_from b o n c 35 (by omega) (by omega) (by omega)
  have s3 := cut_mid b o 35 c 1 3 (by omega) (by omega) (by omega) (by omega)
  have s4 := cut_from b o 35 c 3 (by omega) (by omega) (by omega)
  have i1 : BytesIn W (some ⟨b, o + 1, none⟩) 2 [bs.getD 1 0, bs.getD 2 0] := fun _ => by
    obtain ⟨b', o', e, hcell⟩ := hh (by omega)
    cases e
    refine ⟨b, o + 1, rfl, fun i hi => ?_⟩
    match i, hi with
    | 0, _ => exact hcell 1 (by omega)
    | 1, _ => exact hcell 2 (by omega)
  have i3 : BytesIn W (some ⟨b, o + 3, none⟩) 32 ((bs.drop 3).take 32) := in_cut hh 3 32 (by omega)
  have i35 : BytesIn W (some ⟨b, o + 35, none⟩) M (bs.drop 35) := by
    have := in_cut hh 35 M (by omega)
    rwa [List.take_of_length_le (by rw [List.length_drop]; omega)] at this
  have l3 : ((bs.drop 3).take 32).length = 32 := by rw [List.length_take, List.length_drop]; omega
  have l35 : (bs.drop 35).length = M := by rw [List.length_drop]; omega
  rw [← hM]
  rw [← hM] at s2
  obtain ⟨X, hX⟩ : ∃ X, X = (bs.drop 3).take 32 := ⟨_, rfl⟩
  obtain ⟨Y, hY⟩ : ∃ Y, Y = bs.drop 35 := ⟨_, rfl⟩
  obtain ⟨E, hE⟩ : ∃ E, E = 256 * bs.getD 1 0 + bs.getD 2 0 := ⟨_, rfl⟩
  have hE1 : 0 ≤ E ∧ E ≤ 65535 := by omega
  have C0 := fun (V : World) (hV : Below W.heap.size W V) => greatNumber_two (some ⟨b, o + 1, none⟩) (c - 1) (bs.getD 1 0) (bs.getD 2 0) V (in_below i1 hV) x1 x2
  rw [← hX] at i3 l3
  rw [← hY] at i35 l35
  rw [← hE] at C0
  rw [← hX, ← hY, ← hE]
  obtain ⟨o1, ho1⟩ : ∃ o1, o1 = o + 1 := ⟨_, rfl⟩
  obtain ⟨o3, ho3⟩ : ∃ o3, o3 = o + 3 := ⟨_, rfl⟩
  obtain ⟨o35, ho35⟩ : ∃ o35, o35 = o + 35 := ⟨_, rfl⟩
  obtain ⟨c1, hc1⟩ : ∃ c1, c1 = c - 1 := ⟨_, rfl⟩
  obtain ⟨c3, hc3⟩ : ∃ c3, c3 = c - 3 := ⟨_, rfl⟩
  obtain ⟨c35, hc35⟩ : ∃ c35, c35 = c - 35 := ⟨_, rfl⟩
  rw [← ho35, ← hc35] at s2
  rw [← ho1, ← hc1] at s3
  rw [← ho3, ← hc3] at s4
  rw [← ho1, ← hc1] at C0
  rw [← ho3] at i3
  rw [← ho35] at i35
  have CO := fun (V : World) => implLetterOk_any E (some ⟨b, o3, none⟩) (some ⟨b, o35, none⟩) 32 c3 M c35 V (by omega)
  rw [decide_eq_true (show letOk E 32 M from ⟨hE1.1, hE1.2, rfl, by omega, by omega⟩)] at CO
  have g1 : ¬ (n : Int) < 35 := by omega
  have g2 : (35 : Int) ≤ (n : Int) := by omega
  have hM2 : M ≤ 1516 := by omega
  have dr : ∀ V : World, Below W.heap.size W V → Below W.heap.size W V.drew := fun V hV => hV.drew
  clear hX hY hE hM ho1 ho3 ho35 hc1 hc3 hc35 x1 x2 i1 hk h1 h hh hx hb
  replace s1 : ∀ V, (Instr.slice 22 (.slice (some ⟨b, o, none⟩) n c) none (some (.int .i64 35)) none).run Tryd.prog V = .ok (.slice (some ⟨b, o, none⟩) 35 c) V := s1
  replace s2 : ∀ V, (Instr.slice 22 (.slice (some ⟨b, o, none⟩) n c) (some (.int .i64 35)) none none).run Tryd.prog V = .ok (.slice (some ⟨b, o35, none⟩) M c35) V := s2
  replace s3 : ∀ V, (Instr.slice 22 (.slice (some ⟨b, o, none⟩) 35 c) (some (.int .i64 1)) (some (.int .i64 3)) none).run Tryd.prog V = .ok (.slice (some ⟨b, o1, none⟩) 2 c1) V := s3
  replace s4 : ∀ V, (Instr.slice 22 (.slice (some ⟨b, o, none⟩) 35 c) (some (.int .i64 3)) none none).run Tryd.prog V = .ok (.slice (some ⟨b, o3, none⟩) 32 c3) V := s4
  go_enter Tryd.func18, Tryd.ntmps18
  go_wp2_with (rw [hW.out])
  go_region
  go_wp2_with (fail)
  go_region
  go_wp2_with (fail)
  refine (C0 _ (dr _ (dr _ (Below.refl _ _)))).mono ?_
  rintro e wg ⟨rfl, rfl⟩
  clear C0
  go_wp2_with (fail)
  refine (CO _).mono ?_
  rintro z w3 ⟨rfl, b3⟩
  have bV : Below (W.alloc (.cells #[.int .i64 E, .slice (some ⟨b, o3, none⟩) 32 c3, .slice (some ⟨b, o35, none⟩) M c35] 31)).heap.size (W.alloc (.cells #[.int .i64 E, .slice (some ⟨b, o3, none⟩) 32 c3, .slice (some ⟨b, o35, none⟩) M c35] 31)) w3 := below_on (Below.refl _ _).drew.drew b3
  have CL := (Cells.made W _ _).on bV
  have kW : Below W.heap.size W w3 := made_below _ _ bV
  replace CR := CR.on kW
  obtain ⟨g, hg⟩ : ∃ g, g = W.heap.size := ⟨_, rfl⟩
  have hRg : w.heap.size < g := by rw [hg]; have := kA.size; have e := hW.out; rw [← e]; simp
  rw [← hg] at CL ⊢
  have k3 := below_on kA kW
  have hgl : g < w3.heap.size := CL.1
  clear CO b3 bV
  replace hg : Hid (g = W.heap.size) := hg
  obtain ⟨R, hR⟩ : ∃ R, R = w.heap.size := ⟨_, rfl⟩
  rw [← hR] at CR hRg
  go_wp2_with (fail)
  refine (copied_any (some ⟨b, o3, none⟩) 32 c3 X _ (by decide) l3 (in_below i3 kW)).mono ?_
  rintro z w4 ⟨p4, c4, rfl, r4, b4⟩
  go_wp2_with (fail)
  refine (copied_any (some ⟨b, o35, none⟩) M c35 Y _ (by omega) l35 (in_below i35 (below_on kW b4))).mono ?_
  rintro z w5 ⟨p5, c5, rfl, r5, b5⟩
  replace CL := (CL.on b4).on b5
  replace CR := (CR.on b4).on b5
  replace r4 := r4.on b5
  have k5 := below_on (below_on k3 b4) b5
  have z4 := b4.size
  have z5 := b5.size
  clear b4 b5 k3 kW i3 i35
  have n1 : w5.cell? ⟨g, 1, none⟩ = some (.slice (some ⟨b, o3, none⟩) 32 c3) := (CL.2 1).1
  have f1 := (CL.2 1).2
  have D1 := CL.set 1 (by simp) (.slice p4 32 c4)
  have n2 : (w5.setCell ⟨g, 1, none⟩ (.slice p4 32 c4)).cell? ⟨g, 2, none⟩ = some (.slice (some ⟨b, o35, none⟩) M c35) := (D1.2 2).1
  have f2 := (D1.2 2).2
  have D2 := D1.set 2 (by simp) (.slice p5 M c5)
  replace CR := (CR.other (a := ⟨g, 1, none⟩) (.slice p4 32 c4) (by show R ≠ g; omega)).other (a := ⟨g, 2, none⟩) (.slice p5 M c5) (by show R ≠ g; omega)
  replace r4 := (r4.set_below (a := ⟨g, 1, none⟩) hgl (.slice p4 32 c4)).set_below (a := ⟨g, 2, none⟩) hgl (.slice p5 M c5)
  replace r5 := (r5.set_below (a := ⟨g, 1, none⟩) (by show g < _; omega) (.slice p4 32 c4)).set_below (a := ⟨g, 2, none⟩) (by show g < _; omega) (.slice p5 M c5)
  obtain ⟨X2, hX2⟩ : ∃ X2, X2 = (w5.setCell ⟨g, 1, none⟩ (.slice p4 32 c4)).setCell ⟨g, 2, none⟩ (.slice p5 M c5) := ⟨_, rfl⟩
  have kX2 : Below w.heap.size w X2 := by rw [hX2]; exact (k5.setCell (by show w.heap.size ≤ g; omega) _).setCell (by show w.heap.size ≤ g; omega) _
  have zX2 : X2.heap.size = w5.heap.size := by rw [hX2]; simp
  rw [← hX2] at D2 CR r4 r5
  replace hX2 : Hid ((w5.setCell ⟨g, 1, none⟩ (.slice p4 32 c4)).setCell ⟨g, 2, none⟩ (.slice p5 M c5) = X2) := hX2.symm
  have m0 : X2.cell? ⟨g, 0, none⟩ = some (.int .i64 E) := (D2.2 0).1
  have m1 : X2.cell? ⟨g, 1, none⟩ = some (.slice p4 32 c4) := (D2.2 1).1
  have m2 : X2.cell? ⟨g, 2, none⟩ = some (.slice p5 M c5) := (D2.2 2).1
  have q0 : X2.cell? ⟨R, 0, none⟩ = some (.int .i64 0) := (CR.2 0).1
  have u0 := (CR.2 0).2
  have F1 := CR.set 0 (by simp) (.int .i64 E)
  have q1 : (X2.setCell ⟨R, 0, none⟩ (.int .i64 E)).cell? ⟨R, 1, none⟩ = some (.slice none 0 0) := (F1.2 1).1
  have u1 := (F1.2 1).2
  have F2 := F1.set 1 (by simp) (.slice p4 32 c4)
  have q2 : ((X2.setCell ⟨R, 0, none⟩ (.int .i64 E)).setCell ⟨R, 1, none⟩ (.slice p4 32 c4)).cell? ⟨R, 2, none⟩ = some (.slice none 0 0) := (F2.2 2).1
  have u2 := (F2.2 2).2
  have F3 := F2.set 2 (by simp) (.slice p5 M c5)
  obtain ⟨X3, hX3⟩ : ∃ X3, X3 = ((X2.setCell ⟨R, 0, none⟩ (.int .i64 E)).setCell ⟨R, 1, none⟩ (.slice p4 32 c4)).setCell ⟨R, 2, none⟩ (.slice p5 M c5) := ⟨_, rfl⟩
  have hR3 : R < w3.heap.size := by omega
  have kX3 : Below w.heap.size w X3 := by rw [hX3]; exact ((kX2.setCell (by show w.heap.size ≤ R; omega) _).setCell (by show w.heap.size ≤ R; omega) _).setCell (by show w.heap.size ≤ R; omega) _
  have zX3 : X3.heap.size = w5.heap.size := by rw [hX3]; simpa using zX2
  replace r4 := ((r4.set_below (a := ⟨R, 0, none⟩) hR3 (.int .i64 E)).set_below (a := ⟨R, 1, none⟩) hR3 (.slice p4 32 c4)).set_below (a := ⟨R, 2, none⟩) hR3 (.slice p5 M c5)
  replace r5 := ((r5.set_below (a := ⟨R, 0, none⟩) (by show R < _; omega) (.int .i64 E)).set_below (a := ⟨R, 1, none⟩) (by show R < _; omega) (.slice p4 32 c4)).set_below (a := ⟨R, 2, none⟩) (by show R < _; omega) (.slice p5 M c5)
  rw [← hX3] at F3 r4 r5
  replace hX3 : Hid (((X2.setCell ⟨R, 0, none⟩ (.int .i64 E)).setCell ⟨R, 1, none⟩ (.slice p4 32 c4)).setCell ⟨R, 2, none⟩ (.slice p5 M c5) = X3) := hX3.symm
  have y0 : X3.cell? ⟨R, 0, none⟩ = some (.int .i64 E) := (F3.2 0).1
  have y1 : X3.cell? ⟨R, 1, none⟩ = some (.slice p4 32 c4) := (F3.2 1).1
  have y2 : X3.cell? ⟨R, 2, none⟩ = some (.slice p5 M c5) := (F3.2 2).1
  have fin : Hid (Pair X3 w.heap.size p4 p5 c4 c5 32 M X Y) := ⟨_, _, _, _, r4, r5, ⟨by omega, by omega⟩, ⟨by omega, by omega⟩, .inl (Nat.le_refl _)⟩
  clear F1 F2 F3 D1 D2 CR CL r4 r5 kX2 k5 zX2 zX3 z4 z5
  rw [← hR]
  clear hR
  go_wp2_with (first | rw [hX2.out] | rw [hX3.out])
  refine bodyPost_ret (v := .tuple #[.agg #[.int .i64 E, .slice p4 32 c4, .slice p5 M c5], .bool true]) ?_ rfl ⟨_, _, _, _, rfl, ?_, ?_⟩
  · simp only [results, Tryd.f18]
    go_simp
  · exact fin.out
  · exact kX3

set_option maxHeartbeats 4000000 in
theorem implLetterOf_short (p : Option Addr) (n c : Nat) (w : World) (hn : n < 35) :
    Calls Tryd.prog 18 #[.slice p n c] w fun e w' => ∃ p c q d, e = .returned (.tuple #[.agg #[.int .i64 0, .slice p 0 c, .slice q 0 d], .bool false]) ∧ Pair w' w.heap.size p q c d 0 0 [] [] ∧ Below w.heap.size w w' := by
  obtain ⟨W, hW⟩ : ∃ W, W = w.alloc (.cells #[.int .i64 0, .slice none 0 0, .slice none 0 0] 31) := ⟨_, rfl⟩
  have kA : Below w.heap.size w W := by rw [hW]; exact made_below _ _ (Below.refl _ _)
  have CR : Cells W w.heap.size #[.int .i64 0, .slice none 0 0, .slice none 0 0] := by rw [hW]; exact Cells.made _ _ _
  replace hW : Hid (w.alloc (.cells #[.int .i64 0, .slice none 0 0, .slice none 0 0] 31) = W) := hW.symm
  have g1 : (n : Int) < 35 := by omega
  have hR : w.heap.size = w.heap.size := rfl
  have q0 : W.cell? ⟨w.heap.size, 0, none⟩ = some (.int .i64 0) := (CR.2 0).1
  have u0 := (CR.2 0).2
  have F1 := CR.set 0 (by simp) (.int .i64 0)
  have q1 : (W.setCell ⟨w.heap.size, 0, none⟩ (.int .i64 0)).cell? ⟨w.heap.size, 1, none⟩ = some (.slice none 0 0) := (F1.2 1).1
  have u1 := (F1.2 1).2
  have F2 := F1.set 1 (by simp) (.slice none 0 0)
  have q2 : ((W.setCell ⟨w.heap.size, 0, none⟩ (.int .i64 0)).setCell ⟨w.heap.size, 1, none⟩ (.slice none 0 0)).cell? ⟨w.heap.size, 2, none⟩ = some (.slice none 0 0) := (F2.2 2).1
  have u2 := (F2.2 2).2
  have F3 := F2.set 2 (by simp) (.slice none 0 0)
  obtain ⟨X3, hX3⟩ : ∃ X3, X3 = ((W.setCell ⟨w.heap.size, 0, none⟩ (.int .i64 0)).setCell ⟨w.heap.size, 1, none⟩ (.slice none 0 0)).setCell ⟨w.heap.size, 2, none⟩ (.slice none 0 0) := ⟨_, rfl⟩
  have kX3 : Below w.heap.size w X3 := by rw [hX3]; exact ((kA.setCell (by show w.heap.size ≤ w.heap.size; omega) _).setCell (by show w.heap.size ≤ w.heap.size; omega) _).setCell (by show w.heap.size ≤ w.heap.size; omega) _
  rw [← hX3] at F3
  replace hX3 : Hid (((W.setCell ⟨w.heap.size, 0, none⟩ (.int .i64 0)).setCell ⟨w.heap.size, 1, none⟩ (.slice none 0 0)).setCell ⟨w.heap.size, 2, none⟩ (.slice none 0 0) = X3) := hX3.symm
  have y0 : X3.cell? ⟨w.heap.size, 0, none⟩ = some (.int .i64 0) := (F3.2 0).1
  have y1 : X3.cell? ⟨w.heap.size, 1, none⟩ = some (.slice none 0 0) := (F3.2 1).1
  have y2 : X3.cell? ⟨w.heap.size, 2, none⟩ = some (.slice none 0 0) := (F3.2 2).1
  have fin : Hid (Pair X3 w.heap.size none none 0 0 0 0 [] []) := Pair.none _ _ kX3.size
  clear F1 F2 F3 CR
  clear hR hn
  go_enter Tryd.func18, Tryd.ntmps18
  go_wp2_with (first | rw [hX3.out] | rw [hW.out])
  refine bodyPost_ret (v := .tuple #[.agg #[.int .i64 0, .slice none 0 0, .slice none 0 0], .bool false]) ?_ rfl ⟨_, _, _, _, rfl, ?_, ?_⟩
  · simp only [results, Tryd.f18]
    go_simp
  · exact fin.out
  · exact kX3

set_option maxHeartbeats 4000000 in
theorem implLetterOf_other (b o n c : Nat) (u : Int) (w : World) (hn : ¬ n < 35) (h : w.cell? ⟨b, o, none⟩ = some (.int .u8 u)) (hu : u ≠ 1) :
    Calls Tryd.prog 18 #[.slice (some ⟨b, o, none⟩) n c] w fun e w' => ∃ p c q d, e = .returned (.tuple #[.agg #[.int .i64 0, .slice p 0 c, .slice q 0 d], .bool false]) ∧ Pair w' w.heap.size p q c d 0 0 [] [] ∧ Below w.heap.size w w' := by
  obtain ⟨W, hW⟩ : ∃ W, W = w.alloc (.cells #[.int .i64 0, .slice none 0 0, .slice none 0 0] 31) := ⟨_, rfl⟩
  have kA : Below w.heap.size w W := by rw [hW]; exact made_below _ _ (Below.refl _ _)
  have CR : Cells W w.heap.size #[.int .i64 0, .slice none 0 0, .slice none 0 0] := by rw [hW]; exact Cells.made _ _ _
  replace hW : Hid (w.alloc (.cells #[.int .i64 0, .slice none 0 0, .slice none 0 0] 31) = W) := hW.symm
  have g1 : ¬ (n : Int) < 35 := by omega
  have g2 : (0 : Int) < (n : Int) := by omega
  have hu' : (u != 1) = true := by simpa using hu
  have k0 : W.cell? ⟨b, o, none⟩ = some (.int .u8 u) := (kA.cell (p := ⟨b, o, none⟩) (World.block_lt_of_cell? w ⟨b, o, none⟩ h)).trans h
  have q0 : W.cell? ⟨w.heap.size, 0, none⟩ = some (.int .i64 0) := (CR.2 0).1
  have u0 := (CR.2 0).2
  have F1 := CR.set 0 (by simp) (.int .i64 0)
  have q1 : (W.setCell ⟨w.heap.size, 0, none⟩ (.int .i64 0)).cell? ⟨w.heap.size, 1, none⟩ = some (.slice none 0 0) := (F1.2 1).1
  have u1 := (F1.2 1).2
  have F2 := F1.set 1 (by simp) (.slice none 0 0)
  have q2 : ((W.setCell ⟨w.heap.size, 0, none⟩ (.int .i64 0)).setCell ⟨w.heap.size, 1, none⟩ (.slice none 0 0)).cell? ⟨w.heap.size, 2, none⟩ = some (.slice none 0 0) := (F2.2 2).1
  have u2 := (F2.2 2).2
  have F3 := F2.set 2 (by simp) (.slice none 0 0)
  obtain ⟨X3, hX3⟩ : ∃ X3, X3 = ((W.setCell ⟨w.heap.size, 0, none⟩ (.int .i64 0)).setCell ⟨w.heap.size, 1, none⟩ (.slice none 0 0)).setCell ⟨w.heap.size, 2, none⟩ (.slice none 0 0) := ⟨_, rfl⟩
  have kX3 : Below w.heap.size w X3 := by rw [hX3]; exact ((kA.setCell (by show w.heap.size ≤ w.heap.size; omega) _).setCell (by show w.heap.size ≤ w.heap.size; omega) _).setCell (by show w.heap.size ≤ w.heap.size; omega) _
  rw [← hX3] at F3
  replace hX3 : Hid (((W.setCell ⟨w.heap.size, 0, none⟩ (.int .i64 0)).setCell ⟨w.heap.size, 1, none⟩ (.slice none 0 0)).setCell ⟨w.heap.size, 2, none⟩ (.slice none 0 0) = X3) := hX3.symm
  have y0 : X3.cell? ⟨w.heap.size, 0, none⟩ = some (.int .i64 0) := (F3.2 0).1
  have y1 : X3.cell? ⟨w.heap.size, 1, none⟩ = some (.slice none 0 0) := (F3.2 1).1
  have y2 : X3.cell? ⟨w.heap.size, 2, none⟩ = some (.slice none 0 0) := (F3.2 2).1
  have fin : Hid (Pair X3 w.heap.size none none 0 0 0 0 [] []) := Pair.none _ _ kX3.size
  clear F1 F2 F3 CR
  clear hn hu h
  go_enter Tryd.func18, Tryd.ntmps18
  go_wp2_with (first | rw [hX3.out] | rw [hW.out])
  refine bodyPost_ret (v := .tuple #[.agg #[.int .i64 0, .slice none 0 0, .slice none 0 0], .bool false]) ?_ rfl ⟨_, _, _, _, rfl, ?_, ?_⟩
  · simp only [results, Tryd.f18]
    go_simp
  · exact fin.out
  · exact kX3

set_option maxHeartbeats 4000000 in
theorem implLetterOf_none (b o n c : Nat) (bs : List Int) (w : World) (h : BytesIn w (some ⟨b, o, none⟩) n bs) (hb : ∀ x ∈ bs, 0 ≤ x ∧ x < 256) (hc : n ≤ c) (hn : ¬ n < 35) (h1 : bs.getD 0 0 = 1) (hbig : n ≤ 9223372036854775807) (hno : ¬ (51 ≤ n ∧ n ≤ 1551)) :
    Calls Tryd.prog 18 #[.slice (some ⟨b, o, none⟩) n c] w fun e w' => ∃ p c q d, e = .returned (.tuple #[.agg #[.int .i64 0, .slice p 0 c, .slice q 0 d], .bool false]) ∧ Pair w' w.heap.size p q c d 0 0 [] [] ∧ Below w.heap.size w w' := by
  obtain ⟨M, hM⟩ : ∃ M, M = n - 35 := ⟨_, rfl⟩
  have x1 := byteL hb 1
  have x2 := byteL hb 2
  obtain ⟨W, hW⟩ : ∃ W, W = w.alloc (.cells #[.int .i64 0, .slice none 0 0, .slice none 0 0] 31) := ⟨_, rfl⟩
  have kA : Below w.heap.size w W := by rw [hW]; exact made_below _ _ (Below.refl _ _)
  have CR : Cells W w.heap.size #[.int .i64 0, .slice none 0 0, .slice none 0 0] := by rw [hW]; exact Cells.made _ _ _
  replace hW : Hid (w.alloc (.cells #[.int .i64 0, .slice none 0 0, .slice none 0 0] 31) = W) := hW.symm
  have hh := in_below h kA
  have k0 : W.cell? ⟨b, o, none⟩ = some (.int .u8 1) := by
    obtain ⟨b', o', e, hcell⟩ := hh (by omega)
    cases e
    have := hcell 0 (by omega)
    rw [h1] at this
    exact this
  have s1 := cut_to b o n c 35 (by omega)
  obtain ⟨ad, _, s2, _⟩ := slice_behind b o n c 35 (by omega) (by omega) hc
  have s3 := cut_mid b o 35 c 1 3 (by omega) (by omega) (by omega) (by omega)
  have s4 := cut_from b o 35 c 3 (by omega) (by omega) (by omega)
  have i1 : BytesIn W (some ⟨b, o + 1, none⟩) 2 [bs.getD 1 0, bs.getD 2 0] := fun _ => by
    obtain ⟨b', o', e, hcell⟩ := hh (by omega)
    cases e
    refine ⟨b, o + 1, rfl, fun i hi => ?_⟩
    match i, hi with
    | 0, _ => exact hcell 1 (by omega)
    | 1, _ => exact hcell 2 (by omega)
  rw [← hM] at s2
  obtain ⟨E, hE⟩ : ∃ E, E = 256 * bs.getD 1 0 + bs.getD 2 0 := ⟨_, rfl⟩
  have C0 := fun (V : World) (hV : Below W.heap.size W V) => greatNumber_two (some ⟨b, o + 1, none⟩) (c - 1) (bs.getD 1 0) (bs.getD 2 0) V (in_below i1 hV) x1 x2
  rw [← hE] at C0
  obtain ⟨o1, ho1⟩ : ∃ o1, o1 = o + 1 := ⟨_, rfl⟩
  obtain ⟨o3, ho3⟩ : ∃ o3, o3 = o + 3 := ⟨_, rfl⟩
  obtain ⟨c1, hc1⟩ : ∃ c1, c1 = c - 1 := ⟨_, rfl⟩
  obtain ⟨c3, hc3⟩ : ∃ c3, c3 = c - 3 := ⟨_, rfl⟩
  obtain ⟨c35, hc35⟩ : ∃ c35, c35 = c - 35 := ⟨_, rfl⟩
  rw [← hc35] at s2
  rw [← ho1, ← hc1] at s3
  rw [← ho3, ← hc3] at s4
  rw [← ho1, ← hc1] at C0
  have CO := fun (V : World) => implLetterOk_any E (some ⟨b, o3, none⟩) (some ad) 32 c3 M c35 V (by omega)
  rw [decide_eq_false (show ¬ letOk E 32 M from fun k => hno ⟨by have := k.2.2.2.1; omega, by have := k.2.2.2.2; omega⟩)] at CO
  have g1 : ¬ (n : Int) < 35 := by omega
  have g2 : (35 : Int) ≤ (n : Int) := by omega
  have dr : ∀ V : World, Below W.heap.size W V → Below W.heap.size W V.drew := fun V hV => hV.drew
  clear hE hM ho1 ho3 hc1 hc3 hc35 x1 x2 i1 h1 h hh hb hno hn
  replace s1 : ∀ V, (Instr.slice 22 (.slice (some ⟨b, o, none⟩) n c) none (some (.int .i64 35)) none).run Tryd.prog V = .ok (.slice (some ⟨b, o, none⟩) 35 c) V := s1
  replace s2 : ∀ V, (Instr.slice 22 (.slice (some ⟨b, o, none⟩) n c) (some (.int .i64 35)) none none).run Tryd.prog V = .ok (.slice (some ad) M c35) V := s2
  replace s3 : ∀ V, (Instr.slice 22 (.slice (some ⟨b, o, none⟩) 35 c) (some (.int .i64 1)) (some (.int .i64 3)) none).run Tryd.prog V = .ok (.slice (some ⟨b, o1, none⟩) 2 c1) V := s3
  replace s4 : ∀ V, (Instr.slice 22 (.slice (some ⟨b, o, none⟩) 35 c) (some (.int .i64 3)) none none).run Tryd.prog V = .ok (.slice (some ⟨b, o3, none⟩) 32 c3) V := s4
  go_enter Tryd.func18, Tryd.ntmps18
  go_wp2_with (rw [hW.out])
  go_region
  go_wp2_with (fail)
  go_region
  go_wp2_with (fail)
  refine (C0 _ (dr _ (dr _ (Below.refl _ _)))).mono ?_
  rintro e wg ⟨rfl, rfl⟩
  clear C0
  go_wp2_with (fail)
  refine (CO _).mono ?_
  rintro z w3 ⟨rfl, b3⟩
  have bV : Below (W.alloc (.cells #[.int .i64 E, .slice (some ⟨b, o3, none⟩) 32 c3, .slice (some ad) M c35] 31)).heap.size (W.alloc (.cells #[.int .i64 E, .slice (some ⟨b, o3, none⟩) 32 c3, .slice (some ad) M c35] 31)) w3 := below_on (Below.refl _ _).drew.drew b3
  have kW : Below W.heap.size W w3 := made_below _ _ bV
  replace CR := CR.on kW
  have k3 := below_on kA kW
  clear CO b3 bV kW
  obtain ⟨R, hR⟩ : ∃ R, R = w.heap.size := ⟨_, rfl⟩
  rw [← hR] at CR
  have q0 : w3.cell? ⟨R, 0, none⟩ = some (.int .i64 0) := (CR.2 0).1
  have u0 := (CR.2 0).2
  have F1 := CR.set 0 (by simp) (.int .i64 0)
  have q1 : (w3.setCell ⟨R, 0, none⟩ (.int .i64 0)).cell? ⟨R, 1, none⟩ = some (.slice none 0 0) := (F1.2 1).1
  have u1 := (F1.2 1).2
  have F2 := F1.set 1 (by simp) (.slice none 0 0)
  have q2 : ((w3.setCell ⟨R, 0, none⟩ (.int .i64 0)).setCell ⟨R, 1, none⟩ (.slice none 0 0)).cell? ⟨R, 2, none⟩ = some (.slice none 0 0) := (F2.2 2).1
  have u2 := (F2.2 2).2
  have F3 := F2.set 2 (by simp) (.slice none 0 0)
  obtain ⟨X3, hX3⟩ : ∃ X3, X3 = ((w3.setCell ⟨R, 0, none⟩ (.int .i64 0)).setCell ⟨R, 1, none⟩ (.slice none 0 0)).setCell ⟨R, 2, none⟩ (.slice none 0 0) := ⟨_, rfl⟩
  have kX3 : Below w.heap.size w X3 := by rw [hX3]; exact ((k3.setCell (by show w.heap.size ≤ R; omega) _).setCell (by show w.heap.size ≤ R; omega) _).setCell (by show w.heap.size ≤ R; omega) _
  rw [← hX3] at F3
  replace hX3 : Hid (((w3.setCell ⟨R, 0, none⟩ (.int .i64 0)).setCell ⟨R, 1, none⟩ (.slice none 0 0)).setCell ⟨R, 2, none⟩ (.slice none 0 0) = X3) := hX3.symm
  have y0 : X3.cell? ⟨R, 0, none⟩ = some (.int .i64 0) := (F3.2 0).1
  have y1 : X3.cell? ⟨R, 1, none⟩ = some (.slice none 0 0) := (F3.2 1).1
  have y2 : X3.cell? ⟨R, 2, none⟩ = some (.slice none 0 0) := (F3.2 2).1
  have fin : Hid (Pair X3 w.heap.size none none 0 0 0 0 [] []) := Pair.none _ _ kX3.size
  clear F1 F2 F3 CR
  rw [← hR]
  clear hR
  go_wp2_with (first | rw [hX3.out])
  refine bodyPost_ret (v := .tuple #[.agg #[.int .i64 0, .slice none 0 0, .slice none 0 0], .bool false]) ?_ rfl ⟨_, _, _, _, rfl, ?_, ?_⟩
  · simp only [results, Tryd.f18]
    go_simp
  · exact fin.out
  · exact kX3

theorem implLetterOf_any (p : Option Addr) (n c : Nat) (bs : List Int) (w : World) (hn0 : n ≤ 1048576) (hx : bs.length = n) (h : BytesIn w p n bs) (hb : ∀ x ∈ bs, 0 ≤ x ∧ x < 256) (hc : n ≤ c) :
    Calls Tryd.prog 18 #[.slice p n c] w fun e w' => ∃ p c q d, e = .returned (.tuple #[.agg #[.int .i64 (loE bs), .slice p (loN bs) c, .slice q (loM bs) d], .bool (decide (loOk bs))]) ∧ Pair w' w.heap.size p q c d (loN bs) (loM bs) (loX bs) (loY bs) ∧ Below w.heap.size w w' := by
  by_cases hk : loOk bs
  · rw [loE, loN, loM, loX, loY, if_pos hk, if_pos hk, if_pos hk, if_pos hk, if_pos hk, decide_eq_true hk, hx]
    obtain ⟨b, o, rfl, _⟩ := h (by have := hk.1; omega)
    exact implLetterOf_yes b o n c bs w hx h hb hc hk
  · rw [loE, loN, loM, loX, loY, if_neg hk, if_neg hk, if_neg hk, if_neg hk, if_neg hk, decide_eq_false hk]
    by_cases h35 : n < 35
    · exact implLetterOf_short p n c w h35
    · obtain ⟨b, o, rfl, hcell⟩ := h (by omega)
      by_cases h1 : bs.getD 0 0 = 1
      · exact implLetterOf_none b o n c bs w h hb hc h35 h1 (by omega) fun k => hk ⟨by rw [hx]; exact k.1, by rw [hx]; exact k.2, h1⟩
      · exact implLetterOf_other b o n c _ w h35 (hcell 0 (by omega)) h1

end Go.Proofs.YtdjdanpicbaieaaDoor

namespace Go.Proofs.YtdjdanpicbaieaaDoor
open Go.RowKit
set_option maxRecDepth 100000

theorem size_allocP (W : World) (o : Obj) : (W.alloc o).heap.size = W.heap.size + 1 := by simp
theorem below_allocP {a w : World} (h : Below a.heap.size a w) (o : Obj) : Below a.heap.size a (w.alloc o) := h.alloc h.size o
theorem below_drewP {a w : World} (h : Below a.heap.size a w) : Below a.heap.size a w.drew := h.drew
theorem below_setP {a w : World} (h : Below a.heap.size a w) {x : Addr} (hx : a.heap.size ≤ x.block) (v : Value) : Below a.heap.size a (w.setCell x v) := h.setCell hx v

set_option maxHeartbeats 4000000 in
theorem specLetterOf_no (p : Option Addr) (n c : Nat) (bs : List Int) (w : World) (hx : bs.length = n) (h : BytesIn w p n bs) (hbig : n ≤ 9223372036854775807) (hk : ¬ loOk bs) :
    Calls Tryd.prog 19 #[.slice p n c] w fun e w' => ∃ p c q d, e = .returned (.tuple #[.agg #[.int .i64 0, .slice p 0 c, .slice q 0 d], .bool false]) ∧ Pair w' w.heap.size p q c d 0 0 [] [] ∧ Below w.heap.size w w' := by
  obtain ⟨W, hW⟩ : ∃ W, W = w.alloc (.cells #[.int .i64 0, .slice none 0 0, .slice none 0 0] 31) := ⟨_, rfl⟩
  have kA : Below w.heap.size w W := by rw [hW]; exact made_below _ _ (Below.refl _ _)
  have CR : Cells W w.heap.size #[.int .i64 0, .slice none 0 0, .slice none 0 0] := by rw [hW]; exact Cells.made _ _ _
  replace hW : Hid (w.alloc (.cells #[.int .i64 0, .slice none 0 0, .slice none 0 0] 31) = W) := hW.symm
  have q0 : W.cell? ⟨w.heap.size, 0, none⟩ = some (.int .i64 0) := (CR.2 0).1
  have u0 := (CR.2 0).2
  have F1 := CR.set 0 (by simp) (.int .i64 0)
  have q1 : (W.setCell ⟨w.heap.size, 0, none⟩ (.int .i64 0)).cell? ⟨w.heap.size, 1, none⟩ = some (.slice none 0 0) := (F1.2 1).1
  have u1 := (F1.2 1).2
  have F2 := F1.set 1 (by simp) (.slice none 0 0)
  have q2 : ((W.setCell ⟨w.heap.size, 0, none⟩ (.int .i64 0)).setCell ⟨w.heap.size, 1, none⟩ (.slice none 0 0)).cell? ⟨w.heap.size, 2, none⟩ = some (.slice none 0 0) := (F2.2 2).1
  have u2 := (F2.2 2).2
  have F3 := F2.set 2 (by simp) (.slice none 0 0)
  obtain ⟨X3, hX3⟩ : ∃ X3, X3 = ((W.setCell ⟨w.heap.size, 0, none⟩ (.int .i64 0)).setCell ⟨w.heap.size, 1, none⟩ (.slice none 0 0)).setCell ⟨w.heap.size, 2, none⟩ (.slice none 0 0) := ⟨_, rfl⟩
  have kX3 : Below w.heap.size w X3 := by rw [hX3]; exact ((kA.setCell (by show w.heap.size ≤ w.heap.size; omega) _).setCell (by show w.heap.size ≤ w.heap.size; omega) _).setCell (by show w.heap.size ≤ w.heap.size; omega) _
  rw [← hX3] at F3
  replace hX3 : Hid (((W.setCell ⟨w.heap.size, 0, none⟩ (.int .i64 0)).setCell ⟨w.heap.size, 1, none⟩ (.slice none 0 0)).setCell ⟨w.heap.size, 2, none⟩ (.slice none 0 0) = X3) := hX3.symm
  have y0 : X3.cell? ⟨w.heap.size, 0, none⟩ = some (.int .i64 0) := (F3.2 0).1
  have y1 : X3.cell? ⟨w.heap.size, 1, none⟩ = some (.slice none 0 0) := (F3.2 1).1
  have y2 : X3.cell? ⟨w.heap.size, 2, none⟩ = some (.slice none 0 0) := (F3.2 2).1
  have fin : Hid (Pair X3 w.heap.size none none 0 0 0 0 [] []) := Pair.none _ _ kX3.size
  clear F1 F2 F3 CR
  by_cases g1 : (n : Int) < 51
  · clear h hk hx
    go_enter Tryd.func19, Tryd.ntmps19
    go_wp2_with (first | rw [hX3.out] | rw [hW.out])
    refine bodyPost_ret (v := .tuple #[.agg #[.int .i64 0, .slice none 0 0, .slice none 0 0], .bool false]) ?_ rfl ⟨_, _, _, _, rfl, ?_, ?_⟩
    · simp only [results, Tryd.f19]
      go_simp
    · exact fin.out
    · exact kX3
  · by_cases g2 : (1551 : Int) < (n : Int)
    · clear h hk hx
      go_enter Tryd.func19, Tryd.ntmps19
      go_wp2_with (first | rw [hX3.out] | rw [hW.out])
      refine bodyPost_ret (v := .tuple #[.agg #[.int .i64 0, .slice none 0 0, .slice none 0 0], .bool false]) ?_ rfl ⟨_, _, _, _, rfl, ?_, ?_⟩
      · simp only [results, Tryd.f19]
        go_simp
      · exact fin.out
      · exact kX3
    · obtain ⟨b, o, rfl, hcell⟩ := h (by omega)
      have hu : (bs.getD 0 0 != 1) = true := by
        have : bs.getD 0 0 ≠ 1 := fun e => hk ⟨by omega, by omega, e⟩
        simpa using this
      have h0 := hcell 0 (by omega)
      rw [Nat.add_zero] at h0
      have k0 : W.cell? ⟨b, o, none⟩ = some (.int .u8 (bs.getD 0 0)) := (kA.cell (p := ⟨b, o, none⟩) (World.block_lt_of_cell? w ⟨b, o, none⟩ h0)).trans h0
      generalize bs.getD 0 0 = u at hu k0
      have g3 : (0 : Int) < (n : Int) := by omega
      clear h hk hx hcell h0
      go_enter Tryd.func19, Tryd.ntmps19
      go_wp2_with (first | rw [hX3.out] | rw [hW.out])
      refine bodyPost_ret (v := .tuple #[.agg #[.int .i64 0, .slice none 0 0, .slice none 0 0], .bool false]) ?_ rfl ⟨_, _, _, _, rfl, ?_, ?_⟩
      · simp only [results, Tryd.f19]
        go_simp
      · exact fin.out
      · exact kX3

set_option maxHeartbeats 8000000 in
theorem specLetterOf_yes (b o n c : Nat) (bs : List Int) (w : World) (hx : bs.length = n) (h : BytesIn w (some ⟨b, o, none⟩) n bs) (hb : ∀ x ∈ bs, 0 ≤ x ∧ x < 256) (hc : n ≤ c) (hk : loOk bs) :
    Calls Tryd.prog 19 #[.slice (some ⟨b, o, none⟩) n c] w fun e w' => ∃ p c q d, e = .returned (.tuple #[.agg #[.int .i64 (256 * bs.getD 1 0 + bs.getD 2 0), .slice p 32 c, .slice q (n - 35) d], .bool true]) ∧ Pair w' w.heap.size p q c d 32 (n - 35) ((bs.drop 3).take 32) (bs.drop 35) ∧ Below w.heap.size w w' := by
  obtain ⟨i0, hi, hz0, hz1, hz2⟩ := info_parts infoByte
  have hn1 : 51 ≤ n := by rw [← hx]; exact hk.1
  have hn2 : n ≤ 1551 := by rw [← hx]; exact hk.2.1
  have h1 : bs.getD 0 0 = 1 := hk.2.2
  obtain ⟨M, hM⟩ : ∃ M, M = n - 35 := ⟨_, rfl⟩
  have x1 := byteL hb 1
  have x2 := byteL hb 2
  obtain ⟨W, hW⟩ : ∃ W, W = w.alloc (.cells #[.int .i64 0, .slice none 0 0, .slice none 0 0] 31) := ⟨_, rfl⟩
  have kA : Below w.heap.size w W := by rw [hW]; exact made_below _ _ (Below.refl _ _)
  have zW : Hid (W.heap.size = w.heap.size + 1) := by rw [hW]; exact size_allocP _ _
  have zA := kA.size
  have CR : Cells W w.heap.size #[.int .i64 0, .slice none 0 0, .slice none 0 0] := by rw [hW]; exact Cells.made _ _ _
  replace hW : Hid (w.alloc (.cells #[.int .i64 0, .slice none 0 0, .slice none 0 0] 31) = W) := hW.symm
  obtain ⟨b', o', e, hcell⟩ := id h (by omega)
  cases e
  have hlt := World.block_lt_of_cell? w ⟨b, o + 0, none⟩ (hcell 0 (by omega))
  have HK : ∀ V, Below w.heap.size w V → V.cell? ⟨b, o + 1, none⟩ = some (.int .u8 (bs.getD 1 0)) ∧ V.cell? ⟨b, o + 2, none⟩ = some (.int .u8 (bs.getD 2 0)) := fun V hV => ⟨(hV.cell (p := ⟨b, o + 1, none⟩) hlt).trans (hcell 1 (by omega)), (hV.cell (p := ⟨b, o + 2, none⟩) hlt).trans (hcell 2 (by omega))⟩
  have k0 : W.cell? ⟨b, o, none⟩ = some (.int .u8 1) := by
    have := (kA.cell (p := ⟨b, o + 0, none⟩) hlt).trans (hcell 0 (by omega))
    rw [h1] at this
    exact this
  have s3 := cut_mid b o n c 3 35 (by omega) (by omega) (by omega) (by omega)
  have s35 := cut_from b o n c 35 (by omega) (by omega) (by omega)
  have i3 : BytesIn W (some ⟨b, o + 3, none⟩) 32 ((bs.drop 3).take 32) := in_cut (in_below h kA) 3 32 (by omega)
  have i35 : BytesIn W (some ⟨b, o + 35, none⟩) M (bs.drop 35) := by
    have := in_cut (in_below h kA) 35 M (by omega)
    rwa [List.take_of_length_le (by rw [List.length_drop]; omega)] at this
  have l3 : ((bs.drop 3).take 32).length = 32 := by rw [List.length_take, List.length_drop]; omega
  have l35 : (bs.drop 35).length = M := by rw [List.length_drop]; omega
  rw [← hM]
  rw [← hM] at s35
  obtain ⟨X, hX⟩ : ∃ X, X = (bs.drop 3).take 32 := ⟨_, rfl⟩
  obtain ⟨Y, hY⟩ : ∃ Y, Y = bs.drop 35 := ⟨_, rfl⟩
  obtain ⟨t, ht⟩ : ∃ t, 256 * bs.getD 1 0 = t := ⟨_, rfl⟩
  obtain ⟨E, hE⟩ : ∃ E, t + bs.getD 2 0 = E := ⟨_, rfl⟩
  have ht1 : 0 ≤ t ∧ t ≤ 65280 := by omega
  have hE1 : 0 ≤ E ∧ E ≤ 65535 := by omega
  rw [← hX] at i3 l3
  rw [← hY] at i35 l35
  rw [ht, hE, ← hX, ← hY]
  generalize bs.getD 1 0 = v1 at HK x1 ht
  generalize bs.getD 2 0 = v2 at HK x2 hE
  obtain ⟨o3, ho3⟩ : ∃ o3, o3 = o + 3 := ⟨_, rfl⟩
  obtain ⟨o35, ho35⟩ : ∃ o35, o35 = o + 35 := ⟨_, rfl⟩
  obtain ⟨c3, hc3⟩ : ∃ c3, c3 = c - 3 := ⟨_, rfl⟩
  obtain ⟨c35, hc35⟩ : ∃ c35, c35 = c - 35 := ⟨_, rfl⟩
  rw [← ho35, ← hc35] at s35
  rw [← ho3, ← hc3] at s3
  rw [← ho3] at i3
  rw [← ho35] at i35
  have g1 : ¬ (n : Int) < 51 := by omega
  have g2 : ¬ (1551 : Int) < (n : Int) := by omega
  have g3 : (1 : Int) < (n : Int) := by omega
  have g4 : (2 : Int) < (n : Int) := by omega
  have hM1 : 0 < M := by omega
  have hM2 : M ≤ 1048576 := by omega
  have hw1 : IntKind.i64.wrap v1 = v1 := by rw [IntKind.wrap_i64]; omega
  have hw2 : IntKind.i64.wrap v2 = v2 := by rw [IntKind.wrap_i64]; omega
  have hw3 : IntKind.i64.wrap t = t := by rw [IntKind.wrap_i64]; omega
  have hw4 : IntKind.i64.wrap E = E := by rw [IntKind.wrap_i64]; omega
  clear hX hY hM ho3 ho35 hc3 hc35 hk h1 h hx hb hcell hlt
  replace s3 : ∀ V, (Instr.slice 22 (.slice (some ⟨b, o, none⟩) n c) (some (.int .i64 3)) (some (.int .i64 35)) none).run Tryd.prog V = .ok (.slice (some ⟨b, o3, none⟩) 32 c3) V := s3
  replace s35 : ∀ V, (Instr.slice 22 (.slice (some ⟨b, o, none⟩) n c) (some (.int .i64 35)) none none).run Tryd.prog V = .ok (.slice (some ⟨b, o35, none⟩) M c35) V := s35
  go_enter Tryd.func19, Tryd.ntmps19
  go_wp2_with (rw [hW.out])
  go_region_held3 (fun w' => w'.cell? ⟨b, o + 1, none⟩ = some (.int .u8 v1) ∧ w'.cell? ⟨b, o + 2, none⟩ = some (.int .u8 v2)) (exact HK _ (by repeat (with_reducible (first | exact kA | exact kba | exact kbb | refine below_drewP ?_ | refine below_allocP ?_ _ | refine below_setP ?_ (Nat.le_refl _) _)))) (first | (refine step_fresh (w0 := W) (lo := W.heap.size) hi hz0 hz1 hz2 (.tmp 29) (.tmp 31) 22 Tryd.underlying22 (by rfl) (by rfl) (by rfl) (by rfl) (by repeat (with_reducible (first | exact emp_made _ _ rfl | exact emp_made _ _ (size_allocP _ _) | refine emp_alloc ?_ _ | refine emp_drew ?_ | refine emp_grown ?_ gga (by omega) | refine emp_grown ?_ ggb (by omega)))) (in_below i3 (by repeat (with_reducible (first | exact Below.refl _ _ | exact ba | exact bb | refine below_drewP ?_ | refine below_allocP ?_ _)))) l3 (by decide) (by decide) (by repeat (with_reducible (first | exact Below.refl _ _ | exact ba | exact bb | refine below_drewP ?_ | refine below_allocP ?_ _))) (by omega) ?_; intro ga ca wa ra la lta za gga ba; have sa := ba.size; have kba := below_on kA ba; have Ca := CR.on ba; have qa0 : wa.cell? ⟨w.heap.size, 0, none⟩ = some (.int .i64 0) := (Ca.2 0).1; have ua0 := (Ca.2 0).2; try (have Fa1 := Ca.set 0 (by simp) (.int .i64 E); have qa1 : (wa.setCell ⟨w.heap.size, 0, none⟩ (.int .i64 E)).cell? ⟨w.heap.size, 1, none⟩ = some (.slice none 0 0) := (Fa1.2 1).1; have ua1 := (Fa1.2 1).2; have Fa2 := Fa1.set 1 (by simp) (.slice (some ⟨ga, 0, none⟩) 32 ca); have qa2 : ((wa.setCell ⟨w.heap.size, 0, none⟩ (.int .i64 E)).setCell ⟨w.heap.size, 1, none⟩ (.slice (some ⟨ga, 0, none⟩) 32 ca)).cell? ⟨w.heap.size, 2, none⟩ = some (.slice none 0 0) := (Fa2.2 2).1; have ua2 := (Fa2.2 2).2)) | (refine step_fresh (w0 := W) (lo := W.heap.size) hi hz0 hz1 hz2 (.tmp 33) (.tmp 35) 22 Tryd.underlying22 (by rfl) (by rfl) (by rfl) (by rfl) (by repeat (with_reducible (first | exact emp_made _ _ rfl | exact emp_made _ _ (size_allocP _ _) | refine emp_alloc ?_ _ | refine emp_drew ?_ | refine emp_grown ?_ gga (by omega) | refine emp_grown ?_ ggb (by omega)))) (in_below i35 (by repeat (with_reducible (first | exact Below.refl _ _ | exact ba | exact bb | refine below_drewP ?_ | refine below_allocP ?_ _)))) l35 hM1 hM2 (by repeat (with_reducible (first | exact Below.refl _ _ | exact ba | exact bb | refine below_drewP ?_ | refine below_allocP ?_ _))) (by omega) ?_; intro gc cc wc rb lb ltb zb ggb bb; have sb := bb.size; have kbb := below_on kA bb; have Cb := CR.on bb; have qb0 : wc.cell? ⟨w.heap.size, 0, none⟩ = some (.int .i64 0) := (Cb.2 0).1; have ub0 := (Cb.2 0).2; try (have Fb1 := Cb.set 0 (by simp) (.int .i64 E); have qb1 : (wc.setCell ⟨w.heap.size, 0, none⟩ (.int .i64 E)).cell? ⟨w.heap.size, 1, none⟩ = some (.slice none 0 0) := (Fb1.2 1).1; have ub1 := (Fb1.2 1).2; have Fb2 := Fb1.set 1 (by simp) (.slice (some ⟨ga, 0, none⟩) 32 ca); have qb2 : ((wc.setCell ⟨w.heap.size, 0, none⟩ (.int .i64 E)).setCell ⟨w.heap.size, 1, none⟩ (.slice (some ⟨ga, 0, none⟩) 32 ca)).cell? ⟨w.heap.size, 2, none⟩ = some (.slice none 0 0) := (Fb2.2 2).1; have ub2 := (Fb2.2 2).2)))
  all_goals
    have zw := zW.out
    simp only [size_allocP, World.drew] at la lb za zb
    have F3 := Fb2.set 2 (by simp) (.slice (some ⟨gc, 0, none⟩) M cc)
    have Ra : RowAt wc ga ca 32 X := by
      first
        | exact rowAt_grown (rowAt_alloc ra _) ggb (by omega)
        | exact rowAt_grown ra ggb (by omega)
    obtain ⟨X3, hX3⟩ : ∃ X3, X3 = ((wc.setCell ⟨w.heap.size, 0, none⟩ (.int .i64 E)).setCell ⟨w.heap.size, 1, none⟩ (.slice (some ⟨ga, 0, none⟩) 32 ca)).setCell ⟨w.heap.size, 2, none⟩ (.slice (some ⟨gc, 0, none⟩) M cc) := ⟨_, rfl⟩
    have kX3 : Below w.heap.size w X3 := by rw [hX3]; exact below_setP (below_setP (below_setP kbb (Nat.le_refl _) _) (Nat.le_refl _) _) (Nat.le_refl _) _
    have zX3 : X3.heap.size = wc.heap.size := by rw [hX3]; simp
    have Pa := ((Ra.own.set_below (a := ⟨w.heap.size, 0, none⟩) (by show w.heap.size < ga; omega) (.int .i64 E)).set_below (a := ⟨w.heap.size, 1, none⟩) (by show w.heap.size < ga; omega) (.slice (some ⟨ga, 0, none⟩) 32 ca)).set_below (a := ⟨w.heap.size, 2, none⟩) (by show w.heap.size < ga; omega) (.slice (some ⟨gc, 0, none⟩) M cc)
    have Pb := ((rb.own.set_below (a := ⟨w.heap.size, 0, none⟩) (by show w.heap.size < gc; omega) (.int .i64 E)).set_below (a := ⟨w.heap.size, 1, none⟩) (by show w.heap.size < gc; omega) (.slice (some ⟨ga, 0, none⟩) 32 ca)).set_below (a := ⟨w.heap.size, 2, none⟩) (by show w.heap.size < gc; omega) (.slice (some ⟨gc, 0, none⟩) M cc)
    rw [← hX3] at F3 Pa Pb
    have fin : Hid (Pair X3 w.heap.size (some ⟨ga, 0, none⟩) (some ⟨gc, 0, none⟩) ca cc 32 M X Y) := ⟨_, _, _, _, Pa, Pb, ⟨by omega, by omega⟩, ⟨by omega, by omega⟩, by omega⟩
    have y0 : X3.cell? ⟨w.heap.size, 0, none⟩ = some (.int .i64 E) := (F3.2 0).1
    have y1 : X3.cell? ⟨w.heap.size, 1, none⟩ = some (.slice (some ⟨ga, 0, none⟩) 32 ca) := (F3.2 1).1
    have y2 : X3.cell? ⟨w.heap.size, 2, none⟩ = some (.slice (some ⟨gc, 0, none⟩) M cc) := (F3.2 2).1
    rw [← hX3]
    clear hX3 F3 Pa Pb Ra zX3 zw la lb za zb
    go_wp2_with (fail)
    refine bodyPost_ret (v := .tuple #[.agg #[.int .i64 E, .slice (some ⟨ga, 0, none⟩) 32 ca, .slice (some ⟨gc, 0, none⟩) M cc], .bool true]) ?_ rfl ⟨_, _, _, _, rfl, ?_, ?_⟩
    · simp only [results, Tryd.f19]
      go_simp
    · exact fin.out
    · exact kX3

theorem specLetterOf_any (p : Option Addr) (n c : Nat) (bs : List Int) (w : World) (hn0 : n ≤ 1048576) (hx : bs.length = n) (h : BytesIn w p n bs) (hb : ∀ x ∈ bs, 0 ≤ x ∧ x < 256) (hc : n ≤ c) :
    Calls Tryd.prog 19 #[.slice p n c] w fun e w' => ∃ p c q d, e = .returned (.tuple #[.agg #[.int .i64 (loE bs), .slice p (loN bs) c, .slice q (loM bs) d], .bool (decide (loOk bs))]) ∧ Pair w' w.heap.size p q c d (loN bs) (loM bs) (loX bs) (loY bs) ∧ Below w.heap.size w w' := by
  by_cases hk : loOk bs
  · rw [loE, loN, loM, loX, loY, if_pos hk, if_pos hk, if_pos hk, if_pos hk, if_pos hk, decide_eq_true hk, hx]
    obtain ⟨b, o, rfl, _⟩ := h (by have := hk.1; omega)
    exact specLetterOf_yes b o n c bs w hx h hb hc hk
  · rw [loE, loN, loM, loX, loY, if_neg hk, if_neg hk, if_neg hk, if_neg hk, if_neg hk, decide_eq_false hk]
    exact specLetterOf_no p n c bs w hx h (by omega) hk

end Go.Proofs.YtdjdanpicbaieaaDoor
