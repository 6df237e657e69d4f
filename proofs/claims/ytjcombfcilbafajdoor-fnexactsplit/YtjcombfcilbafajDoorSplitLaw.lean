/-
  FnExactSplit returns true for any text and any byte where the library's variable MaxLen holds some int, and writes nothing that was there.
-/
import Derived.Test.YtjcombfcilbafajDoorImplSplit
import Derived.Test.YtjcombfcilbafajDoorBSplit
import Derived.Shelf.Vars
namespace Go.Proofs.YtjcombfcilbafajDoor
open Go.RowKit

theorem parts_count (s : ByteArray) (b : UInt8) : (partsL s.data.toList b).length = Lib.count s.data.toList [b] + 1 := by
  have h := Lib.splitB_all ⟨#[b]⟩ (Nat.le_refl 1) 0 _ s rfl
  have d := congrArg List.length (Lib.splitB_data ⟨#[b]⟩ 0 (Lib.countB s ⟨#[b]⟩) s)
  rw [List.length_map, h] at d
  simp only [partsL, Lib.split, List.length_map]
  exact d.symm

theorem bsplit (s : ByteArray) (B : Int) (hs : s.size ≤ 1048576) (hB0 : 0 ≤ B) (hB1 : B < 256) (W : World) (G G2 cap : Nat) (m : Int) (hm : W.cell? ⟨0, 0, none⟩ = some (.int .i64 m))
    (h2 : W.heap[G2]? = some (.cells #[.int .u8 B] 5 (0, 0))) (hc : ∀ i, i < s.size → W.cell? ⟨G, i, none⟩ = some (.int .u8 ((nums s.data.toList).getD i 0))) (hcap : s.size ≤ cap) (hcap2 : cap ≤ maxLen) :
    Calls Tryd.prog 9 #[.slice (some ⟨G, 0, none⟩) s.size cap, .slice (some ⟨G2, 0, none⟩) 1 1] W fun e w' => e = .returned (.slice (some ⟨W.heap.size, 0, none⟩) (partsL s.data.toList (UInt8.ofNat B.toNat)).length (partsL s.data.toList (UInt8.ofNat B.toNat)).length) ∧
        w'.heap[W.heap.size]? = some (.cells (Lib.splitV [UInt8.ofNat B.toNat] 0 (Lib.count s.data.toList [UInt8.ofNat B.toNat]) ⟨G, 0, none⟩ cap s.data.toList).toArray 29 (0, 0)) ∧ Below W.heap.size W w' := by
  unfold maxLen at hcap2
  have hl : s.data.toList.length = s.size := (Lib.size_eq s).symm
  have C := Tryd.bytes_Split ⟨G, 0, none⟩ ⟨G2, 0, none⟩ s.size cap 1 1 (nums s.data.toList) [B] m W (by simp only [nums, List.length_map]; exact hl) rfl (nums_range _) (fun y hy => by simp at hy; subst hy; exact ⟨hB0, hB1⟩)
    (fun i hi => by rw [Addr.add_lit, Nat.zero_add]; exact hc i hi) (fun i hi => by obtain rfl : i = 0 := by omega
                                                                                    rw [Addr.add_lit, cell_of_row _ _ _ _ _ _ h2]; rfl) hcap (by omega) (by omega) (by omega) (by omega) hm
  rw [nums_bytes, show Lib.bytesOf [B] = [UInt8.ofNat B.toNat] from rfl, ← parts_count] at C
  refine C.mono fun e w' ⟨he, q, hw⟩ => ?_
  subst hw
  exact ⟨he, heap_alloc_new W _, below_drewN ((Below.refl _ _).alloc (Nat.le_refl _) _) q⟩

/-- The library's variable MaxLen holds some int, and holds it on. -/
def MaxIs (w : World) : Prop := ∃ m, w.cell? ⟨0, 0, none⟩ = some (.int .i64 m)
theorem max_on {w w' : World} (h : MaxIs w) (hb : Below w.heap.size w w') : MaxIs w' := by
  obtain ⟨m, hm⟩ := h
  exact ⟨m, by rw [hb.cell (p := ⟨0, 0, none⟩) (World.block_lt_of_cell? w ⟨0, 0, none⟩ hm)]; exact hm⟩
theorem max_of {W : World} (h : W.ShapedOpen Tryd.prog) : MaxIs W :=
  cell_of_shapedOpen_int (t := 3) (zero := #[.int .i64 0]) h (of_decide_eq_true (by kernel_rfl)) (by kernel_rfl) rfl (by kernel_rfl) (by kernel_rfl) Tryd.underlying3

theorem implSplitW (s : ByteArray) (B : Int) (w : World) (hs : s.size ≤ 1048576) (hB0 : 0 ≤ B) (hB1 : B < 256) (hm : MaxIs w) :
    Calls Tryd.prog 5 #[.string s, .int .u8 B] w fun e w' => ∃ p c, e = .returned (.slice p (partsL s.data.toList (UInt8.ofNat B.toNat)).length c) ∧ OwnS 9 w' w.heap.size w'.heap.size (.slice p (partsL s.data.toList (UInt8.ofNat B.toNat)).length c) (partsL s.data.toList (UInt8.ofNat B.toNat)).length (partsL s.data.toList (UInt8.ofNat B.toNat)) ∧ Below w.heap.size w w' :=
  implSplit_any s B w hs fun W G G2 cap h2 hc hcap hcap2 hb => by
    obtain ⟨m, hm'⟩ := max_on hm hb
    exact bsplit s B hs hB0 hB1 W G G2 cap m hm' h2 hc hcap hcap2

set_option maxHeartbeats 4000000 in
theorem split_small (s : ByteArray) (B : Int) (w : World) (hs : s.size ≤ 1048576) (hB0 : 0 ≤ B) (hB1 : B < 256) (hm : MaxIs w) :
    Calls Tryd.prog 3 #[.string s, .int .u8 B] w fun e w' => e = .returned (.bool true) ∧ Below w.heap.size w w' := by
  have c1 : ¬ (1048576 : Int) < (s.size : Int) := by omega
  have hSpec := fun w => specSplit_any s B w hs hB0 hB1
  have hImpl := fun w (h : MaxIs w) => implSplitW s B w hs hB0 hB1 h
  have hN1 := parts_len s.data.toList (UInt8.ofNat B.toNat)
  have hl : s.data.toList.length = s.size := (Lib.size_eq s).symm
  generalize partsL s.data.toList (UInt8.ofNat B.toNat) = T at hSpec hImpl hN1
  obtain ⟨N, hN⟩ : ∃ N, T.length = N := ⟨_, rfl⟩
  rw [hN] at hN1
  simp only [hN] at hSpec hImpl
  have hN2 : N ≤ 1099511627776 := by omega
  clear hN hN1 hl
  go_enter Tryd.func3, Tryd.ntmps3
  go_wp2_with (fail)
  refine (hSpec _).mono ?_
  rintro e w1 ⟨pr1, cr1, rfl, r1, b1⟩
  have k1 : Below w.heap.size w w1 := below_on (Below.refl _ _) b1
  have z1 := b1.size
  go_wp2_with (fail)
  refine (hImpl _ (max_on hm k1)).mono ?_
  rintro e w2 ⟨pr2, cr2, rfl, r2, b2⟩
  have k2 : Below w.heap.size w w2 := below_on k1 b2
  have z2 := b2.size
  replace r1 := r1.on b2
  go_wp2_with (fail)
  refine (eqStringS_any pr2 pr1 N N cr2 cr1 T T _ (by omega) r2.len r1.len r2.bytes r1.bytes).mono ?_
  rintro e w3 ⟨rfl, b3⟩
  have k3 : Below w.heap.size w w3 := below_on k2 b3
  have z3 := b3.size
  replace r1 := r1.on b3
  replace r2 := r2.on b3
  go_wp2_with (fail)
  refine (markStringS_own _ _ pr2 N cr2 T 1 _ (by omega) (by omega) (by omega) r2).mono ?_
  rintro e w4 ⟨rfl, m4, g4⟩
  have k4 : Below w.heap.size w w4 := below_markS k3 g4 r2 (by omega)
  have z4 := g4.size
  replace r1 := r1.far g4 r2 (by omega)
  clear r2 g4
  have r2 := m4
  clear m4
  go_wp2_with (fail)
  refine (heldStringS_any pr2 N cr2 1 _ (by omega) (by omega) (by omega) r2.bytes).mono ?_
  rintro e w5 ⟨rfl, b5⟩
  have k5 : Below w.heap.size w w5 := below_on k4 b5
  have z5 := b5.size
  replace r1 := r1.on b5
  replace r2 := r2.on b5
  go_wp2_with (fail)
  refine (hImpl _ (max_on hm k5)).mono ?_
  rintro e w6 ⟨pr3, cr3, rfl, r3, b6⟩
  have k6 : Below w.heap.size w w6 := below_on k5 b6
  have z6 := b6.size
  replace r1 := r1.on b6
  replace r2 := r2.on b6
  go_wp2_with (fail)
  refine (eqStringS_any pr3 pr1 N N cr3 cr1 T T _ (by omega) r3.len r1.len r3.bytes r1.bytes).mono ?_
  rintro e w7 ⟨rfl, b7⟩
  have k7 : Below w.heap.size w w7 := below_on k6 b7
  have z7 := b7.size
  replace r1 := r1.on b7
  replace r2 := r2.on b7
  replace r3 := r3.on b7
  go_wp2_with (fail)
  refine (heldStringS_any pr2 N cr2 1 _ (by omega) (by omega) (by omega) r2.bytes).mono ?_
  rintro e w8 ⟨rfl, b8⟩
  have k8 : Below w.heap.size w w8 := below_on k7 b8
  have z8 := b8.size
  replace r1 := r1.on b8
  replace r2 := r2.on b8
  replace r3 := r3.on b8
  go_wp2_with (fail)
  go_ret
  exact ⟨rfl, k8⟩

theorem split_law (s : ByteArray) (B : Int) (w : World) (hB0 : 0 ≤ B) (hB1 : B < 256) (hm : MaxIs w) :
    Calls Tryd.prog 3 #[.string s, .int .u8 B] w fun e w' => e = .returned (.bool true) ∧ Below w.heap.size w w' := by
  by_cases hs : s.size ≤ 1048576
  · exact split_small s B w hs hB0 hB1 hm
  · have c1 : (1048576 : Int) < (s.size : Int) := by omega
    go_enter Tryd.func3, Tryd.ntmps3
    go_wp2
    go_ret
    exact ⟨rfl, Below.refl _ _⟩

end Go.Proofs.YtjcombfcilbafajDoor
