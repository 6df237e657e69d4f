/-
  What the program's Unpadded answers at whatever bytes. Conditions: bytes all; a capacity that is not less than the length.
-/
import Derived.Test.YtaijemajolgmfaaImplNote
import Derived.Test.YtaijemajolgmfaaGreatNum
import Derived.Deep.RegionHeld3
namespace Go.Proofs.Ytaijemajolgmfaa
open Go.RowKit
set_option maxRecDepth 100000

/-- The first two of a slice. -/
theorem slice_two (b j m cc : Nat) (hc : 2 ≤ cc) : ∀ W, (Instr.slice 22 (.slice (some ⟨b, j, none⟩) m cc) none (some (.int .i64 2)) none).run Try.prog W = .ok (.slice (some ⟨b, j, none⟩) 2 cc) W := fun W => by
  have ht' : Try.prog.underlying 22 = some (.slice (Try.prog.elem 22)) := by simp [Program.elem, Try.underlying22]
  have he : Try.prog.elem 22 = 5 := by simp [Program.elem, Try.underlying22]
  obtain ⟨i0, hi, hz0, hz1, hz2⟩ := info_parts infoByte
  have := run_slice_h W 22 (some ⟨b, j, none⟩) m cc ht' .i64 2 (by omega) (by omega)
  refine this.trans ?_
  rw [he]
  simp [sizeOf, typeInfo, hi, sliced, Addr.add]

/-- A slice's part behind l, and of that one the first h. -/
theorem slice_behind (b j m cc l : Nat) (h0 : 0 < l) (h : l ≤ m) (hc : m ≤ cc) : ∃ ad, Hid (l < m → ad = ⟨b, j + l, none⟩) ∧ (∀ W, (Instr.slice 22 (.slice (some ⟨b, j, none⟩) m cc) (some (.int .i64 (l : Int))) none none).run Try.prog W = .ok (.slice (some ad) (m - l) (cc - l)) W) ∧ ∀ h', h' ≤ cc - l → ∀ W, (Instr.slice 22 (.slice (some ad) (m - l) (cc - l)) none (some (.int .i64 (h' : Int))) none).run Try.prog W = .ok (.slice (some ad) h' (cc - l)) W := by
  have ht' : Try.prog.underlying 22 = some (.slice (Try.prog.elem 22)) := by simp [Program.elem, Try.underlying22]
  have he : Try.prog.elem 22 = 5 := by simp [Program.elem, Try.underlying22]
  obtain ⟨i0, hi, hz0, hz1, hz2⟩ := info_parts infoByte
  refine ⟨if cc = l then ⟨b, j, none⟩ else ⟨b, j + l, none⟩, fun h64 => if_neg (by omega), fun W => ?_, fun h' hh W => ?_⟩
  · rw [run_slice_l W 22 _ _ _ ht' .i64 l (by omega) (by omega), he]
    by_cases e : cc = l
    · simp [sizeOf, typeInfo, hi, hz1, sliced, e]
    · simp [sizeOf, typeInfo, hi, hz1, sliced, Addr.add, show l ≠ 0 by omega, e]
  · rw [run_slice_h W 22 _ _ _ ht' .i64 h' (by omega) (by omega), he]
    simp [sizeOf, typeInfo, hi, sliced, Addr.add]

set_option maxHeartbeats 8000000 in
theorem implUnpadded_any (p : Option Addr) (n c : Nat) (bs : List Int) (w : World) (hn0 : n ≤ 1048576) (hx : bs.length = n) (h : BytesIn w p n bs) (hb : ∀ x ∈ bs, 0 ≤ x ∧ x < 256) (hc : n ≤ c) :
    Calls Try.prog 12 #[.slice p n c] w fun e w' => ∃ p' c', e = .returned (.tuple #[.slice p' (unM bs) c', .bool (decide (unOk bs))]) ∧ Own 5 w' w.heap.size w'.heap.size (.slice p' (unM bs) c') (unM bs) (unL bs) ∧ Below w.heap.size w w' := by
  have nil0 : ∀ X : World, Below w.heap.size w X → Own 5 X w.heap.size X.heap.size (.slice none 0 0) 0 [] := fun X hX => .of ⟨rfl, .inl ⟨rfl, rfl⟩⟩
  have hno : Hid (¬ unOk bs → unM bs = 0 ∧ unL bs = [] ∧ decide (unOk bs) = false) := fun k => ⟨if_neg k, if_neg k, decide_eq_false k⟩
  by_cases h2 : n < 2
  · have hk : ¬ unOk bs := fun k => by have := k.1; omega
    obtain ⟨e1, e2, e3⟩ := hno.out hk
    rw [e1, e2, e3]
    have g0 : (n : Int) < 2 := by omega
    clear h hb hx hk e1 e2 e3 hno
    go_enter Try.func12, Try.ntmps12
    go_wp2
    go_ret2
    exact ⟨_, _, rfl, nil0 _ (Below.refl _ _), Below.refl _ _⟩
  · obtain ⟨b, o, rfl, hcell⟩ := h (by omega)
    have g0 : ¬ (n : Int) < 2 := by omega
    have x0 := byteN hb 0
    have x1 := byteN hb 1
    obtain ⟨N, hN⟩ : ∃ N, N = unN bs := ⟨_, rfl⟩
    have hNe : 256 * bs.getD 0 0 + bs.getD 1 0 = (N : Int) := by rw [hN]; unfold unN; omega
    have lN : (N : Int) < 65536 := by rw [hN]; unfold unN; omega
    have C0 := fun X (hX : Below w.heap.size w X) => greatNumber_two (some ⟨b, o, none⟩) c (bs.getD 0 0) (bs.getD 1 0) X (fun _ => ⟨b, o, rfl, fun i hi => by
      have hlt := World.block_lt_of_cell? w ⟨b, o + 0, none⟩ (hcell 0 (by omega))
      match i, hi with
      | 0, _ => exact (hX.cell (p := ⟨b, o + 0, none⟩) hlt).trans (hcell 0 (by omega))
      | 1, _ => exact (hX.cell (p := ⟨b, o + 1, none⟩) hlt).trans (hcell 1 (by omega))⟩) x0 x1
    rw [hNe] at C0
    have hsl0 := slice_two b o n c (by omega)
    have bd0 : Below w.heap.size w w.drew := (Below.refl _ _).drew
    clear x0 x1 hNe
    replace hN : Hid (N = unN bs) := hN
    obtain ⟨ad, had, hsl, hsl2⟩ := slice_behind b o n c 2 (by decide) (by omega) hc
    obtain ⟨m2, hm2⟩ : ∃ m2, m2 = n - 2 := ⟨_, rfl⟩
    obtain ⟨c2, hc2⟩ : ∃ c2, c2 = c - 2 := ⟨_, rfl⟩
    rw [← hm2, ← hc2] at hsl hsl2
    replace hsl : ∀ W, (Instr.slice 22 (.slice (some ⟨b, o, none⟩) n c) (some (.int .i64 2)) none none).run Try.prog W = .ok (.slice (some ad) m2 c2) W := hsl
    have hmc : m2 ≤ c2 := by omega
    have hl2 : (2 : Int) ≤ (n : Int) := by omega
    by_cases hA : m2 < N
    · have hk : ¬ unOk bs := fun k => by have := k.2.1; have := hN.out; omega
      obtain ⟨e1, e2, e3⟩ := hno.out hk
      rw [e1, e2, e3]
      have gA : (m2 : Int) < (N : Int) := by omega
      clear hb hx hk e1 e2 e3 hno hcell hN hA hsl2 had hm2 hc2
      go_enter Try.func12, Try.ntmps12
      go_wp2_with (fail)
      go_region_held3 (fun _ => True) (trivial) (first | (go_at_call 37; refine (C0 _ bd0).mono ?_; rintro e wg ⟨rfl, rfl⟩))
      go_wp2
      go_ret2
      exact ⟨_, _, rfl, nil0 _ (Below.refl _ _).drew, (Below.refl _ _).drew⟩
    · have gA : ¬ (m2 : Int) < (N : Int) := by omega
      have hsl3 := hsl2 N (by omega)
      clear hsl2
      have hin : ∀ X, Below w.heap.size w X → BytesIn X (some ad) N (unS bs) := fun X hX => by
        unfold unS
        rw [← hN.out]
        refine in_part (n := n) (b := b) (o := o) (fun i hi => (hX.cell (p := ⟨b, o + i, none⟩) (World.block_lt_of_cell? w ⟨b, o + 0, none⟩ (hcell 0 (by omega)))).trans (hcell i hi)) (by omega) (fun h0 => by rw [had.out (by omega)])
      have hlS : (unS bs).length = N := by rw [hN.out]; exact unS_length (by have := hN.out; omega)
      have hyes : Hid (noteL (unS bs) = bs → unOk bs) := fun e => ⟨by omega, by have := hN.out; omega, by
        rw [← hN.out]
        apply Nat.le_of_not_lt
        intro hB
        have : noteL (unS bs) = [] := if_neg (by rw [hlS]; omega)
        rw [this] at e
        rw [← e] at hx
        simp at hx
        omega, e⟩
      have C1 := fun X (hX : Below w.heap.size w X) => implPadded_any (some ad) N c2 (unS bs) X hlS (hin X hX)
      have hbS : ∀ x ∈ unS bs, 0 ≤ x ∧ x < 256 := fun x hx => hb x (List.mem_of_mem_drop (List.mem_of_mem_take hx))
      have hin0 : ∀ X, Below w.heap.size w X → BytesIn X (some ⟨b, o, none⟩) n bs := fun X hX => in_below (fun _ => ⟨b, o, rfl, hcell⟩) hX
      have C2 := fun (r : Option Addr) (cr : Nat) (X : World) (h1 : BytesIn X r (noteN N) (noteL (unS bs))) (h2 : BytesIn X (some ⟨b, o, none⟩) n bs) => implSame_any r (some ⟨b, o, none⟩) (noteN N) n cr c (noteL (unS bs)) bs X (by rw [noteL_length, hlS]) hx h1 h2
      rw [strs_same (noteL_byte hbS) hb] at C2
      have C4 := fun X (hX : Below w.heap.size w X) => clone_any (some ad) N c2 (unS bs) X (by omega) hlS (hin X hX)
      have bd : Below w.heap.size w w.drew := (Below.refl _ _).drew
      by_cases hS : noteL (unS bs) = bs
      · have hk := hyes.out hS
        have e1 : unM bs = N := by rw [hN.out]; exact if_pos hk
        have e2 : unL bs = unS bs := if_pos hk
        have e3 : decide (unOk bs) = true := decide_eq_true hk
        have e4 : decide (noteL (unS bs) = bs) = true := decide_eq_true hS
        rw [e1, e2, e3]
        rw [e4] at C2
        clear e1 e2 e3 e4 hS hk hyes hno hcell hbS hb hx hN had hm2 hc2 hin hlS nil0
        generalize unS bs = S at C1 C2 C4 ⊢
        generalize noteL S = V at C1 C2
        generalize noteN N = VN at C1 C2
        go_enter Try.func12, Try.ntmps12
        go_wp2_with (fail)
        go_region_held3 (fun _ => True) (trivial) (first | (go_at_call 37; refine (C0 _ bd0).mono ?_; rintro e wg ⟨rfl, rfl⟩))
        go_wp2_with (fail)
        refine (C1 _ bd).mono ?_
        rintro e w1 ⟨p1, c1, rfl, o1, b1⟩
        have bel1 := below_on bd b1
        have C3 := C2 p1 c1 w1 o1.bytes (hin0 _ bel1)
        clear C2 C1 o1 b1
        go_wp2_with (fail)
        refine C3.mono ?_
        rintro e w2 ⟨rfl, b2⟩
        have bel2 := below_on bel1 b2
        clear C3
        go_wp2_with (fail)
        refine (C4 _ bel2).mono ?_
        rintro e w3 ⟨p3, c3, rfl, o3, b3⟩
        have bel3 := below_on bel2 b3
        clear C4
        go_wp2_with (fail)
        go_ret2
        exact ⟨_, _, rfl, .of (owns_mono o3.1 bel2.size), bel3⟩
      · have hk : ¬ unOk bs := fun k => hS k.2.2.2
        obtain ⟨e1, e2, e3⟩ := hno.out hk
        have e4 : decide (noteL (unS bs) = bs) = false := decide_eq_false hS
        rw [e1, e2, e3]
        rw [e4] at C2
        clear e1 e2 e3 e4 hS hk hyes hno hcell hbS hb hx hN had hm2 hc2 hin hlS C4
        generalize unS bs = S at C1 C2
        generalize noteL S = V at C1 C2
        generalize noteN N = VN at C1 C2
        go_enter Try.func12, Try.ntmps12
        go_wp2_with (fail)
        go_region_held3 (fun _ => True) (trivial) (first | (go_at_call 37; refine (C0 _ bd0).mono ?_; rintro e wg ⟨rfl, rfl⟩))
        go_wp2_with (fail)
        refine (C1 _ bd).mono ?_
        rintro e w1 ⟨p1, c1, rfl, o1, b1⟩
        have bel1 := below_on bd b1
        have C3 := C2 p1 c1 w1 o1.bytes (hin0 _ bel1)
        clear C2 C1 o1 b1
        go_wp2_with (fail)
        refine C3.mono ?_
        rintro e w2 ⟨rfl, b2⟩
        have bel2 := below_on bel1 b2
        clear C3
        go_wp2_with (fail)
        go_ret2
        exact ⟨_, _, rfl, nil0 _ bel2, bel2⟩

end Go.Proofs.Ytaijemajolgmfaa
