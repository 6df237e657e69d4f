/-
  What impl.Split answers at every text of at most 1048576 bytes and every byte: what stands between such bytes, in order; its condition: the library's variable MaxLen holds some int.
-/
import Derived.Test.YtjcombfcilbafaeDoorSplitCore
import Derived.Laws.IdiomStrings
import Derived.Lib.SlSplitV
import Derived.Lib.Bytes
namespace Go.Proofs.YtjcombfcilbafaeDoor
open Go.RowKit

def nums (p : List UInt8) : List Int := p.map fun b => (b.toNat : Int)
theorem nums_text (p : List UInt8) : strOfNums (nums p) = ⟨p.toArray⟩ := by
  unfold strOfNums nums
  congr 2
  rw [List.map_map]
  conv => rhs; rw [← List.map_id p]
  apply List.map_congr_left
  intro x _
  simp
theorem nums_bytes (p : List UInt8) : Lib.bytesOf (nums p) = p := by
  unfold Lib.bytesOf nums
  rw [List.map_map]
  conv => rhs; rw [← List.map_id p]
  apply List.map_congr_left
  intro x _
  simp
theorem nums_range (p : List UInt8) : ∀ x ∈ nums p, 0 ≤ x ∧ x < 256 := by
  intro x hx
  simp only [nums, List.mem_map] at hx
  obtain ⟨b, _, rfl⟩ := hx
  have := b.toNat_lt
  omega
theorem row_cells {W : World} {G cap t : Nat} {fr : Nat × Nat} {s : ByteArray} (h : W.heap[G]? = some (.cells (bytesRow s cap) t fr)) : ∀ i, i < s.size → W.cell? ⟨G, i, none⟩ = some (.int .u8 ((nums s.data.toList).getD i 0)) := by
  intro i hi
  rw [cell_of_row _ _ _ _ _ _ h]
  have hd : i < s.data.size := hi
  unfold bytesRow
  rw [Array.getElem?_append_left (by simpa using hd), Array.getElem?_map, Array.getElem?_eq_getElem hd]
  simp only [nums, List.getD_eq_getElem?_getD, List.getElem?_map, Array.getElem?_toList]
  rw [Array.getElem?_eq_getElem hd]
  rfl

/-- Where each part lies, and what it holds. -/
theorem part_at {W : World} {G cap : Nat} {s : ByteArray} {b : UInt8} (hcells : ∀ i, i < s.size → W.cell? ⟨G, i, none⟩ = some (.int .u8 ((nums s.data.toList).getD i 0))) (hcap : s.size ≤ cap) (j : Nat) (hj : j < (partsL s.data.toList b).length) :
    ∃ a' len cp part, (Lib.splitV [b] 0 (Lib.count s.data.toList [b]) ⟨G, 0, none⟩ cap s.data.toList)[j]? = some (.slice (some a') len cp) ∧ (nums part).length = len ∧ BytesIn W (some a') len (nums part) ∧ (partsL s.data.toList b)[j]? = some ⟨part.toArray⟩ := by
  have hl : s.data.toList.length = s.size := (Lib.size_eq s).symm
  have hlen : (Lib.splitV [b] 0 (Lib.count s.data.toList [b]) ⟨G, 0, none⟩ cap s.data.toList).length = (partsL s.data.toList b).length := by
    rw [Lib.splitV_length]; simp [partsL, Lib.split]
  have hv := List.getElem?_eq_getElem (show j < (Lib.splitV [b] 0 (Lib.count s.data.toList [b]) ⟨G, 0, none⟩ cap s.data.toList).length by omega)
  obtain ⟨a', off, len, cp, e1, _, h2, h3, h4⟩ := Lib.splitV_spec [b] 0 (by simp) (by simp) (Lib.count s.data.toList [b]) ⟨G, 0, none⟩ cap s.data.toList (by omega) j _ hv
  rw [e1] at hv
  have hpl : ((s.data.toList.drop off).take len).length = len := by simp; omega
  refine ⟨a', len, cp, (s.data.toList.drop off).take len, hv, by simp only [nums, List.length_map]; exact hpl, fun hn => ?_, by simp only [partsL, Lib.split, List.getElem?_map]; rw [h3]; rfl⟩
  have h0 := h4 0 hn
  rw [Addr.add_lit] at h0
  have ha : a' = ⟨G, off, none⟩ := by
    have e0 : a'.add 0 = a' := by cases a'; simp [Addr.add]
    rw [e0] at h0
    simpa using h0
  subst ha
  refine ⟨G, off, rfl, fun i hi => ?_⟩
  rw [hcells (off + i) (by omega)]
  simp only [nums, List.getD_eq_getElem?_getD, List.getElem?_map]
  rw [List.getElem?_take, if_pos hi, List.getElem?_drop]

theorem splitK_len (sep : List UInt8) (k : Nat) : ∀ l, (Lib.splitK sep 0 k l).length ≤ k + 1 := by
  induction k with
  | zero => intro l; simp [Lib.splitK]
  | succ k ih =>
    intro l
    unfold Lib.splitK
    split
    · simp
    · have := ih (l.drop ((Lib.index l sep).toNat + sep.length))
      simp only [List.length_cons]
      omega
theorem parts_len (l : List UInt8) (b : UInt8) : (partsL l b).length ≤ l.length + 1 := by
  have h1 := splitK_len [b] (Lib.count l [b]) l
  have h2 : Lib.count l [b] ≤ l.length := by rw [Lib.count_one]; exact List.count_le_length
  simp only [partsL, Lib.split, List.length_map]
  omega

set_option maxHeartbeats 2000000 in
theorem implSplit_any (s : ByteArray) (B : Int) (w : World) (hs : s.size ≤ 1048576)
    (hBS : ∀ (W : World) (G G2 cap : Nat), W.heap[G2]? = some (.cells #[.int .u8 B] 5 (0, 0)) → (∀ i, i < s.size → W.cell? ⟨G, i, none⟩ = some (.int .u8 ((nums s.data.toList).getD i 0))) → s.size ≤ cap → cap ≤ maxLen → Below w.heap.size w W →
      Calls Tryd.prog 17 #[.slice (some ⟨G, 0, none⟩) s.size cap, .slice (some ⟨G2, 0, none⟩) 1 1] W fun e w' => e = .returned (.slice (some ⟨W.heap.size, 0, none⟩) (partsL s.data.toList (UInt8.ofNat B.toNat)).length (partsL s.data.toList (UInt8.ofNat B.toNat)).length) ∧
        w'.heap[W.heap.size]? = some (.cells (Lib.splitV [UInt8.ofNat B.toNat] 0 (Lib.count s.data.toList [UInt8.ofNat B.toNat]) ⟨G, 0, none⟩ cap s.data.toList).toArray 22 (0, 0)) ∧ Below W.heap.size W w') :
    Calls Tryd.prog 10 #[.string s, .int .u8 B] w fun e w' => ∃ p c, e = .returned (.slice p (partsL s.data.toList (UInt8.ofNat B.toNat)).length c) ∧ OwnS 9 w' w.heap.size w'.heap.size (.slice p (partsL s.data.toList (UInt8.ofNat B.toNat)).length c) (partsL s.data.toList (UInt8.ofNat B.toNat)).length (partsL s.data.toList (UInt8.ofNat B.toNat)) ∧ Below w.heap.size w w' := by
  obtain ⟨i0, hi, hz0, hz1, hz2⟩ := info_parts infoStr
  obtain ⟨b, hb⟩ : ∃ b, b = UInt8.ofNat B.toNat := ⟨_, rfl⟩
  rw [← hb] at hBS ⊢
  have hN1 := parts_len s.data.toList b
  have hN0 := (Lib.size_eq s).symm
  obtain ⟨T, hT⟩ : ∃ T, T = partsL s.data.toList b := ⟨_, rfl⟩
  rw [← hT] at hBS hN1 ⊢
  obtain ⟨N, hN⟩ : ∃ N, N = T.length := ⟨_, rfl⟩
  rw [← hN] at hBS hN1 ⊢
  have hN2 : N ≤ 1099511627776 := by omega
  have HT : Hid (T = partsL s.data.toList b) := hT
  have hTN : Hid (N = T.length) := hN
  clear hb hT hN hN0 hN1
  have hcv := run_bytes_of_string (P := Tryd.prog) w 9 22 5 s Tryd.underlying9 Tryd.underlying22 Tryd.underlying5
  have hcap := grownCap_ge w s.size 0 5
  have hcap2 := grownCap_le_maxLen w s.size 0 5 (by unfold maxLen; omega)
  generalize grownCap w s.size 0 5 = cap at hcv hcap hcap2
  go_enter Tryd.func10, Tryd.ntmps10
  go_wp2_with (fail)
  have hb2 : Below w.heap.size w ((w.alloc (.cells (bytesRow s cap) 5 ((bytesRow s cap).size, (bytesRow s cap).size + 1))).alloc (.cells #[.int .u8 B] 5)).drew := (((Below.refl _ _).alloc (Nat.le_refl _) _).alloc (by simp) _).drew
  have hG : ((w.alloc (.cells (bytesRow s cap) 5 ((bytesRow s cap).size, (bytesRow s cap).size + 1))).alloc (.cells #[.int .u8 B] 5)).drew.heap[w.heap.size]? = some (.cells (bytesRow s cap) 5 ((bytesRow s cap).size, (bytesRow s cap).size + 1)) :=
    (Below.heap_alloc _ _ _ (by simp)).trans (heap_alloc_new w _)
  have hG2 : ((w.alloc (.cells (bytesRow s cap) 5 ((bytesRow s cap).size, (bytesRow s cap).size + 1))).alloc (.cells #[.int .u8 B] 5)).drew.heap[w.heap.size + 1]? = some (.cells #[.int .u8 B] 5 (0, 0)) := by
    have e : (w.alloc (.cells (bytesRow s cap) 5 ((bytesRow s cap).size, (bytesRow s cap).size + 1))).heap.size = w.heap.size + 1 := by simp
    have := heap_alloc_new (w.alloc (.cells (bytesRow s cap) 5 ((bytesRow s cap).size, (bytesRow s cap).size + 1))) (.cells #[.int .u8 B] 5)
    rw [e] at this
    exact this
  generalize ((w.alloc (.cells (bytesRow s cap) 5 ((bytesRow s cap).size, (bytesRow s cap).size + 1))).alloc (.cells #[.int .u8 B] 5)).drew = W at hb2 hG hG2 ⊢
  have hcells := row_cells hG
  refine (hBS W w.heap.size (w.heap.size + 1) cap hG2 hcells hcap hcap2 hb2).mono ?_
  rintro e w1 ⟨rfl, hrow, b1⟩
  have hpart := part_at (b := b) hcells hcap
  rw [← HT.out, ← hTN.out] at hpart
  obtain ⟨H, hH⟩ : ∃ H, H = W.heap.size := ⟨_, rfl⟩
  rw [← hH] at hrow ⊢
  have hH1 : H < w1.heap.size := (Array.getElem?_eq_some_iff.1 hrow).1
  have k1 := hb2.trans (b1.mono hb2.size)
  have z1 := k1.size
  clear hcv hG hG2 hBS hH
  go_wp2
  go_loopw [5, 14] (fun v i wr => ∃ k : Nat, k ≤ N ∧ i = .int .i64 k ∧ wr.ownsRow w1.heap.size 9 1 v k ((T.take k).map Value.string) ∧ Below w1.heap.size w1 wr) (fun _ i _ => N - (intOf i).toNat)
  case atStart => exact ⟨0, Nat.zero_le _, rfl, World.ownsRow_nil _ _ _ _, Below.refl _ _⟩
  case round =>
    obtain ⟨k, hk, rfl, hown, hbel⟩ := hrel
    have hsz := hbel.size
    by_cases hlt : k < N
    · obtain ⟨a', len, cp, part, e1, e2, e3, e4⟩ := hpart k hlt
      have hcell : wr.cell? ⟨H, k, none⟩ = some (.slice (some a') len cp) := by
        rw [hbel.cell (p := ⟨H, k, none⟩) hH1, cell_of_row _ _ _ _ _ _ hrow]
        simpa using e1
      have g := text_of (P := Tryd.prog) (in_below (in_below e3 b1) hbel) e2 cp 22 5 9 Tryd.underlying22 Tryd.underlying5 Tryd.underlying9
      have HN : Hid (T.take k ++ [strOfNums (nums part)] = T.take (k + 1)) := by
        show _ = _
        have hkl : k < T.length := by have := hTN.out; omega
        rw [List.take_succ_eq_append_getElem hkl, nums_text]
        rw [List.getElem?_eq_getElem hkl] at e4
        simp at e4
        rw [e4]
      clear hpart e1 e2 e3 e4
      go_wp2_with (at_builtin; refine list_pushS hi hz0 hz1 hz2 (.tmp 18) (.tmp 21) 30 Tryd.underlying30 _ hown (by omega) hsz (by rfl) (by rfl) (by rfl) (by rfl) ?_; intro g cap w2 ho2 hb2 hkk; rw [HN.out] at ho2)
      go_roundw
      case rel => exact ⟨k + 1, by omega, by go_num, ho2, hbel.trans hb2⟩
      case measure => simp [intOf]; omega
    · obtain rfl : k = N := by omega
      rw [List.take_of_length_le (by have := hTN.out; omega)] at hown
      obtain ⟨p', c', hv⟩ := owns_form hown
      subst hv
      clear hpart
      go_wp2
      go_ret
      exact ⟨p', c', rfl, .of (owns_mono hown z1), below_on k1 hbel⟩

end Go.Proofs.YtjcombfcilbafaeDoor
