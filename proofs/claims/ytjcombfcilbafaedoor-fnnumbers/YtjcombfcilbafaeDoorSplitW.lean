/-
  What impl.Split answers where the library's variable MaxLen holds some int.
-/
import Derived.Test.YtjcombfcilbafaeDoorImplSplitCore
import Derived.Test.YtjcombfcilbafaeDoorBSplit
import Derived.Shelf.Vars
namespace Go.Proofs.YtjcombfcilbafaeDoor
open Go.RowKit

theorem parts_count (s : ByteArray) (b : UInt8) : (partsL s.data.toList b).length = Lib.count s.data.toList [b] + 1 := by
  have h := Lib.splitB_all ⟨#[b]⟩ (Nat.le_refl 1) 0 _ s rfl
  have d := congrArg List.length (Lib.splitB_data ⟨#[b]⟩ 0 (Lib.countB s ⟨#[b]⟩) s)
  rw [List.length_map, h] at d
  simp only [partsL, Lib.split, List.length_map]
  exact d.symm

theorem bsplit (s : ByteArray) (B : Int) (hs : s.size ≤ 1048576) (hB0 : 0 ≤ B) (hB1 : B < 256) (W : World) (G G2 cap : Nat) (m : Int) (hm : W.cell? ⟨0, 0, none⟩ = some (.int .i64 m))
    (h2 : W.heap[G2]? = some (.cells #[.int .u8 B] 5 (0, 0))) (hc : ∀ i, i < s.size → W.cell? ⟨G, i, none⟩ = some (.int .u8 ((nums s.data.toList).getD i 0))) (hcap : s.size ≤ cap) (hcap2 : cap ≤ maxLen) :
    Calls Tryd.prog 17 #[.slice (some ⟨G, 0, none⟩) s.size cap, .slice (some ⟨G2, 0, none⟩) 1 1] W fun e w' => e = .returned (.slice (some ⟨W.heap.size, 0, none⟩) (partsL s.data.toList (UInt8.ofNat B.toNat)).length (partsL s.data.toList (UInt8.ofNat B.toNat)).length) ∧
        w'.heap[W.heap.size]? = some (.cells (Lib.splitV [UInt8.ofNat B.toNat] 0 (Lib.count s.data.toList [UInt8.ofNat B.toNat]) ⟨G, 0, none⟩ cap s.data.toList).toArray 22 (0, 0)) ∧ Below W.heap.size W w' := by
  unfold maxLen at hcap2
  have hl : s.data.toList.length = s.size := (Lib.size_eq s).symm
  have C := Tryd.bytes_Split ⟨G, 0, none⟩ ⟨G2, 0, none⟩ s.size cap 1 1 (nums s.data.toList) [B] m W (by simp only [nums, List.length_map]; exact hl) rfl (nums_range _) (fun y hy => by simp at hy; subst hy; exact ⟨hB0, hB1⟩)
    (fun i hi => by rw [Addr.add_lit, Nat.zero_add]; exact hc i hi) (fun i hi => by obtain rfl : i = 0 := by omega
                                                                                    rw [Addr.add_lit, cell_of_row _ _ _ _ _ _ h2]; rfl) hcap (by omega) (by omega) (by omega) (by omega) hm
  rw [nums_bytes, show Lib.bytesOf [B] = [UInt8.ofNat B.toNat] from rfl, ← parts_count] at C
  refine C.mono fun e w' ⟨he, q, hw⟩ => ?_
  subst hw
  exact ⟨he, heap_alloc_new W _, below_drewN ((Below.refl _ _).alloc (Nat.le_refl _) _) q⟩

/-- The library's variable MaxLen holds some int, and holds it on. -/
def MaxIs (w : World) : Prop := ∃ m, w.cell? ⟨0, 0, none⟩ = some (.int .i64 m)
theorem max_on {w w' : World} (h : MaxIs w) (hb : Below w.heap.size w w') : MaxIs w' := by
  obtain ⟨m, hm⟩ := h
  exact ⟨m, by rw [hb.cell (p := ⟨0, 0, none⟩) (World.block_lt_of_cell? w ⟨0, 0, none⟩ hm)]; exact hm⟩
theorem max_of {W : World} (h : W.ShapedOpen Tryd.prog) : MaxIs W :=
  cell_of_shapedOpen_int (t := 3) (zero := #[.int .i64 0]) h (of_decide_eq_true (by kernel_rfl)) (by kernel_rfl) rfl (by kernel_rfl) (by kernel_rfl) Tryd.underlying3

theorem implSplitW (s : ByteArray) (B : Int) (w : World) (hs : s.size ≤ 1048576) (hB0 : 0 ≤ B) (hB1 : B < 256) (hm : MaxIs w) :
    Calls Tryd.prog 10 #[.string s, .int .u8 B] w fun e w' => ∃ p c, e = .returned (.slice p (partsL s.data.toList (UInt8.ofNat B.toNat)).length c) ∧ OwnS 9 w' w.heap.size w'.heap.size (.slice p (partsL s.data.toList (UInt8.ofNat B.toNat)).length c) (partsL s.data.toList (UInt8.ofNat B.toNat)).length (partsL s.data.toList (UInt8.ofNat B.toNat)) ∧ Below w.heap.size w w' :=
  implSplit_any s B w hs fun W G G2 cap h2 hc hcap hcap2 hb => by
    obtain ⟨m, hm'⟩ := max_on hm hb
    exact bsplit s B hs hB0 hB1 W G G2 cap m hm' h2 hc hcap hcap2

end Go.Proofs.YtjcombfcilbafaeDoor
