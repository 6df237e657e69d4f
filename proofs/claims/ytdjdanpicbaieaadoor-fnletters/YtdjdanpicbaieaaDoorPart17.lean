/-
  What both sides' KeysOf answers at any bytes: the first 32 and the last 12 of what is derived. Conditions: bytes all; for the program the table of the rounds' numbers is as its text says.
-/
import Derived.Test.YtdjdanpicbaieaaDoorPart15
import Derived.Test.YtdjdanpicbaieaaDoorPart16
import Derived.Test.YtdjdanpicbaieaaDoorPart03
import Derived.Deep.RegionHeld3
import Derived.Lib.SlBytesConst
namespace Go.Proofs.YtdjdanpicbaieaaDoor
open Go.RowKit
set_option maxRecDepth 100000

/-- 'plume' -/
def plumeL : List Int := [112, 108, 117, 109, 101]
theorem plume_byte : ∀ x ∈ plumeL, 0 ≤ x ∧ x < 256 := by decide
/-- What is derived. -/
def bothL (ss fs ts : List Int) : List Int := derL (fs ++ ts) ss plumeL 44
def kyL (ss fs ts : List Int) : List Int := (bothL ss fs ts).take 32
def ncL (ss fs ts : List Int) : List Int := (bothL ss fs ts).drop 32
theorem der44 (n m : Nat) : derN n m 5 44 = 44 := expN_is (M := 44) (by omega) (by omega) (by omega) (by have := extN_le n m; omega)
theorem bothL_length (ss fs ts : List Int) : (bothL ss fs ts).length = 44 := by rw [bothL, derL_length]; exact der44 _ _
theorem kyL_length (ss fs ts : List Int) : (kyL ss fs ts).length = 32 := by rw [kyL, List.length_take, bothL_length]; rfl
theorem ncL_length (ss fs ts : List Int) : (ncL ss fs ts).length = 12 := by rw [ncL, List.length_drop, bothL_length]
theorem bothL_byte (ss fs ts : List Int) : ∀ x ∈ bothL ss fs ts, 0 ≤ x ∧ x < 256 := expL_byte _ _ _

theorem plume_in (w : World) (ty : Nat) (fz : Nat × Nat) : BytesIn (w.alloc (.cells #[.int .u8 112, .int .u8 108, .int .u8 117, .int .u8 109, .int .u8 101] ty fz)) (some ⟨w.heap.size, 0, none⟩) 5 plumeL := by
  intro _
  refine ⟨w.heap.size, 0, rfl, fun i hi => ?_⟩
  rw [cell_of_row _ _ _ _ _ _ (heap_made w _)]
  match i, hi with
  | 0, _ => rfl
  | 1, _ => rfl
  | 2, _ => rfl
  | 3, _ => rfl
  | 4, _ => rfl

/-- The first 32 of a row, and what is behind. -/
theorem slice_32 (p : Option Addr) (c : Nat) (hc : 44 ≤ c) : (∀ W, (Instr.slice 22 (.slice p 44 c) none (some (.int .i64 32)) none).run Tryd.prog W = .ok (.slice p 32 c) W) := fun W => by
  have ht' : Tryd.prog.underlying 22 = some (.slice (Tryd.prog.elem 22)) := by simp [Program.elem, Tryd.underlying22]
  have he : Tryd.prog.elem 22 = 5 := by simp [Program.elem, Tryd.underlying22]
  obtain ⟨i0, hi, hz0, hz1, hz2⟩ := info_parts infoByte
  have := run_slice_h W 22 p 44 c ht' .i64 32 (by omega) (by omega)
  refine this.trans ?_
  rw [he]
  cases p <;> simp [sizeOf, typeInfo, hi, sliced, Addr.add]
theorem slice_behind32 (b j c : Nat) (hc : 44 ≤ c) : (∀ W, (Instr.slice 22 (.slice (some ⟨b, j, none⟩) 44 c) (some (.int .i64 32)) none none).run Tryd.prog W = .ok (.slice (some ⟨b, j + 32, none⟩) 12 (c - 32)) W) := fun W => by
  have ht' : Tryd.prog.underlying 22 = some (.slice (Tryd.prog.elem 22)) := by simp [Program.elem, Tryd.underlying22]
  have he : Tryd.prog.elem 22 = 5 := by simp [Program.elem, Tryd.underlying22]
  obtain ⟨i0, hi, hz0, hz1, hz2⟩ := info_parts infoByte
  have := run_slice_l W 22 (some ⟨b, j, none⟩) 44 c ht' .i64 32 (by omega) (by omega)
  refine this.trans ?_
  rw [he]
  have e : ¬ c = 32 := by omega
  simp [sizeOf, typeInfo, hi, hz1, sliced, Addr.add, e]

theorem in_first {w : World} {p : Option Addr} {xs : List Int} (h : BytesIn w p 44 xs) : BytesIn w p 32 (xs.take 32) := fun _ => by
  obtain ⟨b, o, rfl, hc⟩ := h (by omega)
  refine ⟨b, o, rfl, fun i hi => ?_⟩
  rw [hc i (by omega)]
  simp [List.getD_eq_getElem?_getD, hi]
theorem in_behind {w : World} {b o : Nat} {xs : List Int} (h : BytesIn w (some ⟨b, o, none⟩) 44 xs) : BytesIn w (some ⟨b, o + 32, none⟩) 12 (xs.drop 32) := fun _ => by
  obtain ⟨b', o', e, hc⟩ := h (by omega)
  cases e
  refine ⟨b, o + 32, rfl, fun i hi => ?_⟩
  rw [Nat.add_assoc, hc (32 + i) (by omega)]
  simp [List.getD_eq_getElem?_getD, List.getElem?_drop]

theorem size_alloc (W : World) (o : Obj) : (W.alloc o).heap.size = W.heap.size + 1 := by simp
theorem below_allocK {a w : World} (h : Below a.heap.size a w) (o : Obj) : Below a.heap.size a (w.alloc o) := h.alloc h.size o
theorem below_drewK {a w : World} (h : Below a.heap.size a w) : Below a.heap.size a w.drew := h.drew

set_option maxHeartbeats 4000000 in
theorem implKeys_any (p0 p1 p2 : Option Addr) (n0 n1 n2 q0 q1 q2 : Nat) (xs0 xs1 xs2 : List Int) (w : World) (hn1 : n1 ≤ 1048576) (hn2 : n2 ≤ 1048576) (hx0 : xs0.length = n0) (hx1 : xs1.length = n1) (hx2 : xs2.length = n2) (h0 : BytesIn w p0 n0 xs0) (h1 : BytesIn w p1 n1 xs1) (h2 : BytesIn w p2 n2 xs2)
    (hb0 : ∀ x ∈ xs0, 0 ≤ x ∧ x < 256) (hb1 : ∀ x ∈ xs1, 0 ≤ x ∧ x < 256) (hb2 : ∀ x ∈ xs2, 0 ≤ x ∧ x < 256) (hK : KeysIs w) :
    Calls Tryd.prog 21 #[.slice p0 n0 q0, .slice p1 n1 q1, .slice p2 n2 q2] w fun e w' => ∃ p c q d, e = .returned (.tuple #[.slice p 32 c, .slice q 12 d]) ∧ Pair w' w.heap.size p q c d 32 12 (kyL xs0 xs1 xs2) (ncL xs0 xs1 xs2) ∧ Below w.heap.size w w' := by
  unfold kyL ncL
  have hbb : ∀ x ∈ xs1 ++ xs2, 0 ≤ x ∧ x < 256 := fun x hx => (List.mem_append.1 hx).elim (hb1 x) (hb2 x)
  have hbl := bothL_length xs0 xs1 xs2
  have CC := fun (X : World) (hX : Below w.heap.size w X) => concatTwo p1 p2 n1 n2 q1 q2 xs1 xs2 X hx1 hx2 (by omega) (in_below h1 hX) (in_below h2 hX)
  have CD := fun (pc : Option Addr) (cc : Nat) (X : World) (hc : BytesIn X pc (n1 + n2) (xs1 ++ xs2)) (hX : Below w.heap.size w X) (r : Option Addr) (f : Nat) (hr : BytesIn X r 5 plumeL) => implDerive_any pc p0 r (n1 + n2) n0 5 cc q0 f 44 (xs1 ++ xs2) xs0 plumeL X (by rw [List.length_append, hx1, hx2]) hx0 rfl hc (in_below h0 hX) hr hbb hb0 plume_byte (keys_below hK hX)
  simp only [der44] at CD
  rw [show derL (xs1 ++ xs2) xs0 plumeL 44 = bothL xs0 xs1 xs2 from rfl] at CD
  generalize bothL xs0 xs1 xs2 = BL at CD hbl ⊢
  obtain ⟨A, hA⟩ : ∃ A, A = BL.take 32 := ⟨_, rfl⟩
  obtain ⟨B, hB⟩ : ∃ B, B = BL.drop 32 := ⟨_, rfl⟩
  have hAl : A.length = 32 := by rw [hA, List.length_take, hbl]; rfl
  have hBl : B.length = 12 := by rw [hB, List.length_drop, hbl]
  rw [← hA, ← hB]
  go_enter Tryd.func21, Tryd.ntmps21
  go_wp2_with (fail)
  refine (CC _ (Below.refl _ _)).mono ?_
  rintro e w1 ⟨pc, cc, rfl, rc, b1⟩
  have kc := fun (W : World) (C : Array Value) (n c : Nat) => Lib.run_convert_bytes_const (P := Tryd.prog) W 22 5 C n c Tryd.underlying22 Tryd.underlying5
  obtain ⟨W1, hW1⟩ : ∃ W1, W1 = w1.alloc (.cells #[.int .u8 112, .int .u8 108, .int .u8 117, .int .u8 109, .int .u8 101] 5 (5, 6)) := ⟨_, rfl⟩
  have bp : Below w1.heap.size w1 W1 := by rw [hW1]; exact made_below _ _ (Below.refl _ _)
  have hpl : BytesIn W1 (some ⟨w1.heap.size, 0, none⟩) 5 plumeL := by rw [hW1]; exact plume_in _ _ _
  have bW := below_on b1 bp
  have CD1 := CD pc cc W1 (in_below rc.bytes bp) bW (some ⟨w1.heap.size, 0, none⟩) 5 hpl
  replace hW1 : Hid (w1.alloc (.cells #[.int .u8 112, .int .u8 108, .int .u8 117, .int .u8 109, .int .u8 101] 5 (5, 6)) = W1) := hW1.symm
  clear CD CC hpl rc bp
  go_wp2_with (rw [hW1.out])
  refine CD1.mono ?_
  rintro e w2 ⟨p2, c2, rfl, r2, b2⟩
  have hc2 := r2.cap
  have k2 := below_on bW b2
  obtain ⟨gb, go, rfl, _⟩ := r2.bytes (by omega)
  have s1 := slice_32 (some ⟨gb, go, none⟩) c2 hc2
  have s2 := slice_behind32 gb go c2 hc2
  have bd : Below w2.heap.size w2 w2.drew := (Below.refl _ _).drew
  have i1 : BytesIn w2 (some ⟨gb, go, none⟩) 32 A := by rw [hA]; exact in_first r2.bytes
  have i2 : BytesIn w2 (some ⟨gb, go + 32, none⟩) 12 B := by rw [hB]; exact in_behind r2.bytes
  obtain ⟨g2, hg2⟩ : ∃ g2, g2 = go + 32 := ⟨_, rfl⟩
  obtain ⟨d2, hd2⟩ : ∃ d2, d2 = c2 - 32 := ⟨_, rfl⟩
  rw [← hg2, ← hd2] at s2
  rw [← hg2] at i2
  clear hg2 hd2 CD1 hA hB kc
  go_wp2_with (fail)
  go_region_held3 (fun _ => True) (trivial) (first | (go_at_call_of 44 go; refine (copied_any (some ⟨gb, go, none⟩) 32 c2 A _ (by decide) hAl (in_below i1 (by repeat (with_reducible (first | exact Below.refl _ _ | refine below_drewK ?_ | refine below_on ?_ ba | refine below_on ?_ bb))))).mono ?_; rintro z wa ⟨pa, ca, rfl, ra, ba⟩) | (go_at_call_of 44 g2; refine (copied_any (some ⟨gb, g2, none⟩) 12 d2 B _ (by decide) hBl (in_below i2 (by repeat (with_reducible (first | exact Below.refl _ _ | refine below_drewK ?_ | refine below_on ?_ ba | refine below_on ?_ bb))))).mono ?_; rintro z wb ⟨pb, cb, rfl, rb, bb⟩))
  all_goals
    go_wp2
    go_ret2
    first
      | exact ⟨_, _, _, _, rfl, ⟨_, _, _, _, ra.on bb, rb, ⟨k2.size, bb.size⟩, ⟨Nat.le_trans k2.size ba.size, Nat.le_refl _⟩, .inl (Nat.le_refl _)⟩, below_on (below_on k2.drew ba) bb⟩
      | exact ⟨_, _, _, _, rfl, ⟨_, _, _, _, ra, rb.on ba, ⟨Nat.le_trans k2.size bb.size, Nat.le_refl _⟩, ⟨k2.size, ba.size⟩, .inr (Nat.le_refl _)⟩, below_on (below_on k2.drew bb) ba⟩

set_option maxHeartbeats 8000000 in
theorem specKeys_any (p0 p1 p2 : Option Addr) (n0 n1 n2 q0 q1 q2 : Nat) (xs0 xs1 xs2 : List Int) (w : World) (hn1 : n1 ≤ 1048576) (hn2 : n2 ≤ 1048576) (hx0 : xs0.length = n0) (hx1 : xs1.length = n1) (hx2 : xs2.length = n2) (h0 : BytesIn w p0 n0 xs0) (h1 : BytesIn w p1 n1 xs1) (h2 : BytesIn w p2 n2 xs2)
    (hb0 : ∀ x ∈ xs0, 0 ≤ x ∧ x < 256) (hb1 : ∀ x ∈ xs1, 0 ≤ x ∧ x < 256) (hb2 : ∀ x ∈ xs2, 0 ≤ x ∧ x < 256) :
    Calls Tryd.prog 22 #[.slice p0 n0 q0, .slice p1 n1 q1, .slice p2 n2 q2] w fun e w' => ∃ p c q d, e = .returned (.tuple #[.slice p 32 c, .slice q 12 d]) ∧ Pair w' w.heap.size p q c d 32 12 (kyL xs0 xs1 xs2) (ncL xs0 xs1 xs2) ∧ Below w.heap.size w w' := by
  unfold kyL ncL
  obtain ⟨i0, hi, hz0, hz1, hz2⟩ := info_parts infoByte
  have hbb : ∀ x ∈ xs1 ++ xs2, 0 ≤ x ∧ x < 256 := fun x hx => (List.mem_append.1 hx).elim (hb1 x) (hb2 x)
  have hbl := bothL_length xs0 xs1 xs2
  have CD := fun (pc : Option Addr) (cc : Nat) (X : World) (hc : BytesIn X pc (n1 + n2) (xs1 ++ xs2)) (hX : Below w.heap.size w X) (r : Option Addr) (f : Nat) (hr : BytesIn X r 5 plumeL) => specDerive_any pc p0 r (n1 + n2) n0 5 cc q0 f 44 (xs1 ++ xs2) xs0 plumeL X (by rw [List.length_append, hx1, hx2]) hx0 rfl hc (in_below h0 hX) hr hbb hb0 plume_byte
  simp only [der44] at CD
  rw [show derL (xs1 ++ xs2) xs0 plumeL 44 = bothL xs0 xs1 xs2 from rfl] at CD
  generalize bothL xs0 xs1 xs2 = BL at CD hbl ⊢
  obtain ⟨A, hA⟩ : ∃ A, A = BL.take 32 := ⟨_, rfl⟩
  obtain ⟨B, hB⟩ : ∃ B, B = BL.drop 32 := ⟨_, rfl⟩
  have hAl : A.length = 32 := by rw [hA, List.length_take, hbl]; rfl
  have hBl : B.length = 12 := by rw [hB, List.length_drop, hbl]
  rw [← hA, ← hB]
  have o1 : (w.alloc (.cells #[] 5)).ownsRow w.heap.size 5 1 (.slice (some ⟨w.heap.size, 0, none⟩) 0 0) 0 (([] : List Int).map (Value.int .u8)) := World.ownsRow_made w #[] 0 (Nat.le_refl _) (by unfold maxLen; omega) rfl
  have b0 : Below w.heap.size w (w.alloc (.cells #[] 5)) := made_below _ _ (Below.refl _ _)
  have i1 := in_below h1 b0
  have z0 := b0.size
  obtain ⟨XL, hXL⟩ : ∃ XL, XL = xs1 ++ xs2 := ⟨_, rfl⟩
  obtain ⟨XN, hXN⟩ : ∃ XN, XN = n1 + n2 := ⟨_, rfl⟩
  simp only [← hXL, ← hXN] at CD
  replace hXL : Hid (xs1 ++ xs2 = XL) := hXL.symm
  replace hXN : Hid (n1 + n2 = XN) := hXN.symm
  clear hb0 hb1 hb2 hbb h1
  go_enter Tryd.func22, Tryd.ntmps22
  have kc := fun (W : World) (C : Array Value) (n c : Nat) => Lib.run_convert_bytes_const (P := Tryd.prog) W 22 5 C n c Tryd.underlying22 Tryd.underlying5
  go_wp2_with (first
    | (at_builtin; refine list_spreadA hi hz0 hz1 hz2 (.tmp 10) (.tmp 11) 22 Tryd.underlying22 o1 i1 hx1 (by omega) (by omega) z0 (by rfl) (by rfl) (by rfl) (by rfl) ?_; intro p3 c3 w3 o3 bq3; rw [List.nil_append, Nat.zero_add] at o3; rw [Nat.zero_add]; have k3 := b0.trans bq3; have z3 := k3.size; have i2 := in_below h2 k3; clear o1 i1 bq3)
    | (at_builtin; refine list_spreadA hi hz0 hz1 hz2 (.tmp 12) (.tmp 13) 22 Tryd.underlying22 o3 i2 hx2 (by omega) (by omega) z3 (by rfl) (by rfl) (by rfl) (by rfl) ?_; intro p4 c4 w4 o4 bq4; rw [hXL.out, hXN.out] at o4; rw [hXN.out]; have k4 := k3.trans bq4; have r4 := Own.of o4; clear o3 i2 bq4))
  have bp : Below w4.heap.size w4 (w4.alloc (.cells #[.int .u8 112, .int .u8 108, .int .u8 117, .int .u8 109, .int .u8 101] 5 (5, 6))) := made_below _ _ (Below.refl _ _)
  have bW := below_on k4 bp
  refine (CD p4 c4 _ (in_below r4.bytes bp) bW _ 5 (plume_in _ _ _)).mono ?_
  rintro e w5 ⟨p5, c5, rfl, r5, b5⟩
  have hc5 := r5.cap
  have k5 := below_on bW b5
  obtain ⟨gb, go, rfl, _⟩ := r5.bytes (by omega)
  have s1 := slice_32 (some ⟨gb, go, none⟩) c5 hc5
  have s2 := slice_behind32 gb go c5 hc5
  have j1 : BytesIn w5 (some ⟨gb, go, none⟩) 32 A := by rw [hA]; exact in_first r5.bytes
  have j2 : BytesIn w5 (some ⟨gb, go + 32, none⟩) 12 B := by rw [hB]; exact in_behind r5.bytes
  obtain ⟨g2, hg2⟩ : ∃ g2, g2 = go + 32 := ⟨_, rfl⟩
  obtain ⟨d2, hd2⟩ : ∃ d2, d2 = c5 - 32 := ⟨_, rfl⟩
  rw [← hg2, ← hd2] at s2
  rw [← hg2] at j2
  have zk5 := k5.size
  clear hg2 hd2 CD hA hB kc r4 bp b5 k3 z3 z0 b0 r5 h0 h2 hx0 hx1 hx2 hXL hXN hbl
  go_wp2_with (fail)
  go_region_held3 (fun _ => True) (trivial) (first | (refine step_fresh (w0 := w5) (lo := w5.heap.size) hi hz0 hz1 hz2 (.tmp 25) (.tmp 27) 22 Tryd.underlying22 (by rfl) (by rfl) (by rfl) (by rfl) (by repeat (with_reducible (first | exact emp_made _ _ rfl | exact emp_made _ _ (size_alloc _ _) | refine emp_alloc ?_ _ | refine emp_drew ?_ | refine emp_grown ?_ gga (by omega) | refine emp_grown ?_ ggb (by omega)))) (in_below j1 (by repeat (with_reducible (first | exact Below.refl _ _ | exact ba | exact bb | refine below_drewK ?_ | refine below_allocK ?_ _)))) hAl (by decide) (by decide) (by repeat (with_reducible (first | exact Below.refl _ _ | exact ba | exact bb | refine below_drewK ?_ | refine below_allocK ?_ _))) (by omega) ?_; intro ga ca wa ra la lta za gga ba; have sa := ba.size) | (refine step_fresh (w0 := w5) (lo := w5.heap.size) hi hz0 hz1 hz2 (.tmp 29) (.tmp 31) 22 Tryd.underlying22 (by rfl) (by rfl) (by rfl) (by rfl) (by repeat (with_reducible (first | exact emp_made _ _ rfl | exact emp_made _ _ (size_alloc _ _) | refine emp_alloc ?_ _ | refine emp_drew ?_ | refine emp_grown ?_ gga (by omega) | refine emp_grown ?_ ggb (by omega)))) (in_below j2 (by repeat (with_reducible (first | exact Below.refl _ _ | exact ba | exact bb | refine below_drewK ?_ | refine below_allocK ?_ _)))) hBl (by decide) (by decide) (by repeat (with_reducible (first | exact Below.refl _ _ | exact ba | exact bb | refine below_drewK ?_ | refine below_allocK ?_ _))) (by omega) ?_; intro gc cc wc rb lb ltb zb ggb bb; have sb := bb.size))
  all_goals
    simp only [size_alloc, World.drew] at la lb za zb
    go_wp2
    go_ret2
    first
      | exact ⟨_, _, _, _, rfl, ⟨_, _, _, _, (rowAt_grown (rowAt_alloc ra _) ggb (by omega)).own, rb.own, ⟨by omega, by omega⟩, ⟨by omega, by omega⟩, by omega⟩, below_on k5 bb⟩
      | exact ⟨_, _, _, _, rfl, ⟨_, _, _, _, (rowAt_grown ra ggb (by omega)).own, rb.own, ⟨by omega, by omega⟩, ⟨by omega, by omega⟩, by omega⟩, below_on k5 bb⟩
      | exact ⟨_, _, _, _, rfl, ⟨_, _, _, _, ra.own, (rowAt_grown (rowAt_alloc rb _) gga (by omega)).own, ⟨by omega, by omega⟩, ⟨by omega, by omega⟩, by omega⟩, below_on k5 ba⟩
      | exact ⟨_, _, _, _, rfl, ⟨_, _, _, _, ra.own, (rowAt_grown rb gga (by omega)).own, ⟨by omega, by omega⟩, ⟨by omega, by omega⟩, by omega⟩, below_on k5 ba⟩

end Go.Proofs.YtdjdanpicbaieaaDoor
