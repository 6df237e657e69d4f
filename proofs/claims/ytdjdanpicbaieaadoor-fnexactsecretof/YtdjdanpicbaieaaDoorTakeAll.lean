/-
  What the program's takeAll makes of a hash and of whole blocks of bytes, and what its sum answers: the words behind all the blocks; the words' bytes. Conditions: words and bytes; the bytes lie in another block; the table of the rounds' numbers is as its text says.
-/
import Derived.Test.YtdjdanpicbaieaaDoorImplBlock
import Derived.Test.YtdjdanpicbaieaaDoorWordBytes
namespace Go.Proofs.YtdjdanpicbaieaaDoor
open Go.RowKit

def sliceLen : Value → Nat
  | .slice _ m _ => m
  | _ => 0
/-- The words behind k blocks, from the words S on. -/
def foldF (S : List Nat) (zs : List Int) : Nat → List Nat
  | 0 => S
  | k + 1 => blockN (wsOf ((zs.drop (64 * k)).take 64)) (foldF S zs k)
theorem foldF_lt {S : List Nat} (hS : ∀ x ∈ S, x < 4294967296) (zs : List Int) (k : Nat) : ∀ x ∈ foldF S zs k, x < 4294967296 := by
  cases k with
  | zero => exact hS
  | succ k => exact blockN_lt _ _
theorem foldF_length {S : List Nat} (hS : S.length = 8) (zs : List Int) (k : Nat) : (foldF S zs k).length = 8 := by
  cases k with
  | zero => exact hS
  | succ k => exact blockN_length _ _
theorem part_byte {zs : List Int} (hb : ∀ x ∈ zs, 0 ≤ x ∧ x < 256) (k : Nat) : ∀ x ∈ (zs.drop k).take 64, 0 ≤ x ∧ x < 256 := fun x hx => hb x (List.mem_of_mem_drop (List.mem_of_mem_take hx))

set_option maxRecDepth 100000 in
set_option maxHeartbeats 4000000 in
theorem takeAll_any (ty n o : Nat) (A B : List Value) (lo g : Nat) (S : List Nat) (L0 zs : List Int) (p : Option Addr) (M c K : Nat) (w : World) (hS : ∀ x ∈ S, x < 4294967296) (hL0 : ∀ x ∈ L0, 0 ≤ x ∧ x < 256) (hzl : zs.length = M) (hzb : ∀ x ∈ zs, 0 ≤ x ∧ x < 256) (hM : M = 64 * K) (hM2 : M ≤ 1048576) (hcap : M ≤ c)
    (h : HashIn ty n o A B w lo g S L0 (spreadN (wsOf L0))) (hKey : KeysIs w) (hlo : 0 < lo) (hin : BytesIn w p M zs) (hne : ∀ b q, p = some ⟨b, q, none⟩ → b ≠ g) :
    Calls Tryd.prog 81 #[.pointer (some ⟨g, o, none⟩), .slice p M c] w fun e w' => e = .returned (.tuple #[]) ∧ ∃ L, HashIn ty n o A B w' lo g (foldF S zs K) L (spreadN (wsOf L)) ∧ (∀ x ∈ L, 0 ≤ x ∧ x < 256) ∧ w.grownBy w' (some g) := by
  have hg := h.lt
  have hMK : Hid (M = 64 * K) := hM
  clear hM
  obtain ⟨g3, o3, hp3, hc3⟩ : ∃ g3 o3, (0 < M → p = some ⟨g3, o3, none⟩ ∧ g3 ≠ g ∧ g3 < w.heap.size) ∧ ∀ i, i < M → w.cell? ⟨g3, o3 + i, none⟩ = some (.int .u8 (zs.getD i 0)) := by
    rcases Nat.eq_zero_or_pos M with h0 | h0
    · exact ⟨0, 0, fun hp => absurd hp (by omega), fun i hi => absurd hi (by omega)⟩
    · obtain ⟨b, q, e1, e2⟩ := hin h0
      exact ⟨b, q, fun _ => ⟨e1, hne b q e1, World.block_lt_of_cell? w ⟨b, q + 0, none⟩ (e2 0 h0)⟩, e2⟩
  have HP : Hid (0 < M → p = some ⟨g3, o3, none⟩ ∧ g3 ≠ g ∧ g3 < w.heap.size) := hp3
  have HC : Hid (∀ i, i < M → w.cell? ⟨g3, o3 + i, none⟩ = some (.int .u8 (zs.getD i 0))) := hc3
  have hK3 : Hid (∀ X, w.grownBy X (some g) → KeysIs X) := fun X hX t ht => (cell_grown (p := ⟨0, t, none⟩) hX (show 0 < w.heap.size by omega) (show 0 ≠ g by omega)).trans (hKey t ht)
  clear hp3 hc3 hin hne hKey
  have hq0 : Hid (0 < M → p = some ⟨g3, o3 + 64 * 0, none⟩) := fun hp => (HP.out hp).1
  go_enter Tryd.func81, Tryd.ntmps81
  go_wp2_with (fail)
  go_loopw [4] (fun v wr => ∃ (k m : Nat) (q : Option Addr) (cc : Nat) (L : List Int), k ≤ K ∧ Hid (m + 64 * k = M) ∧ v = .slice q m cc ∧ m ≤ cc ∧ Hid (0 < m → q = some ⟨g3, o3 + 64 * k, none⟩) ∧ HashIn ty n o A B wr lo g (foldF S zs k) L (spreadN (wsOf L)) ∧ Hid (∀ x ∈ L, 0 ≤ x ∧ x < 256) ∧ w.grownBy wr (some g))
    (fun v _ => sliceLen v)
  case atStart => exact ⟨0, M, p, c, L0, by omega, rfl, rfl, hcap, hq0, h, hL0, World.grownBy.refl _ _⟩
  case round =>
    clear h hq0
    obtain ⟨k, m, q, cc, L, hk, hm, rfl, hcc, hq, hH, hLb, hgr⟩ := hrel
    by_cases hlt : k < K
    · have hm64 : 64 ≤ m := by have := hm.out; have := hMK.out; omega
      obtain rfl := hq.out (by omega)
      have hml := hm.out
      obtain ⟨-, hgne, hglt⟩ := HP.out (by omega)
      have hX : ((zs.drop (64 * k)).take 64).length = 64 := by simp [hzl]; omega
      have hXb := part_byte hzb (64 * k)
      have hra : wr.rangeAt g3 (o3 + 64 * k) (u8L ((zs.drop (64 * k)).take 64)) := fun i v hv => by
        have hi : i < 64 := by have := (List.getElem?_eq_some_iff.1 hv).1; simp [u8L] at this; omega
        have hci := HC.out (64 * k + i) (by omega)
        rw [Nat.add_assoc, cell_grown (p := ⟨g3, o3 + (64 * k + i), none⟩) hgr hglt hgne, hci, ← hv]
        simp [u8L, hi, List.getElem?_eq_getElem (show 64 * k + i < zs.length by omega)]
      have hsz8 : (Tryd.prog.info? 80).map (·.size) = some (u8L ((zs.drop (64 * k)).take 64)).length := by rw [infoBlk]; simp [u8L, hzl]; omega
      have CT := take_any ty n o A B lo g (foldF S zs k) L ((zs.drop (64 * k)).take 64) wr (foldF_lt hS zs k) hLb.out hX hXb hH (hK3.out _ hgr) hlo
      replace CT : Calls Tryd.prog 79 #[.pointer (some ⟨g, o, none⟩), .agg (u8L ((zs.drop (64 * k)).take 64)).toArray] wr fun e w' => e = .returned (.tuple #[]) ∧ HashIn ty n o A B w' lo g (foldF S zs (k + 1)) ((zs.drop (64 * k)).take 64) (spreadN (wsOf ((zs.drop (64 * k)).take 64))) ∧ wr.grownBy w' (some g) := CT
      replace hXb : Hid (∀ x ∈ (zs.drop (64 * k)).take 64, 0 ≤ x ∧ x < 256) := hXb
      generalize (zs.drop (64 * k)).take 64 = X at hra hsz8 CT hXb
      obtain ⟨j, hj⟩ : ∃ j, o3 + 64 * k = j := ⟨_, rfl⟩
      rw [hj] at hra ⊢
      replace hj : Hid (o3 + 64 * k = j) := hj
      have hat : ∀ w, (Instr.arrayAt 80 (.slice (some ⟨g3, j, none⟩) m cc)).run Tryd.prog w = .ok (.pointer (some ⟨g3, j, none⟩)) w := fun w => run_arrayAt w 80 _ 64 _ m cc Tryd.underlying80 hm64
      have hm0 : (0 : Int) < (m : Int) := by omega
      obtain ⟨q', hq', hsl⟩ : ∃ q', Hid (64 < m → q' = some ⟨g3, j + 64, none⟩) ∧ ∀ W, (Instr.slice 22 (.slice (some ⟨g3, j, none⟩) m cc) (some (.int .i64 64)) none none).run Tryd.prog W = .ok (.slice q' (m - 64) (cc - 64)) W := by
        refine ⟨if cc = 64 then some ⟨g3, j, none⟩ else some ⟨g3, j + 64, none⟩, fun h64 => if_neg (by omega), fun W => ?_⟩
        have ht' : Tryd.prog.underlying 22 = some (.slice (Tryd.prog.elem 22)) := by simp [Program.elem, Tryd.underlying22]
        have he : Tryd.prog.elem 22 = 5 := by simp [Program.elem, Tryd.underlying22]
        obtain ⟨i0, hi, hz0, hz1, hz2⟩ := info_parts infoByte
        rw [run_slice_l W 22 _ _ _ ht' .i64 64 (by omega) (by omega), he]
        simp [sizeOf, typeInfo, hi, hz1, sliced, Addr.add]
      clear hX hq hml hH hLb hgne hglt
      go_wp2_with (refine wpList_load_mid rfl 80 _ rfl g3 j rfl (u8L X) _ hra Tryd.underlying80 rfl hsz8 ?_)
      refine CT.mono ?_
      rintro e w5 ⟨rfl, h5, g5⟩
      clear CT hra hat hsz8
      have hgr5 := grown_trans hgr g5
      go_wp2
      go_roundw
      case rel => exact ⟨k + 1, m - 64, q', cc - 64, X, by omega, by have := hm.out; rw [Hid]; omega, rfl, by omega, fun hp => by rw [show o3 + 64 * (k + 1) = j + 64 by have := hj.out; omega]; exact hq'.out (by omega), h5, hXb, hgr5⟩
      case measure => simp only [sliceLen]; omega
    · have hm0 : m = 0 := by have := hm.out; have := hMK.out; omega
      have hmz : ¬ (0 : Int) < (m : Int) := by omega
      have hkK : k = K := by omega
      rw [hkK] at hH
      clear hm0 hkK hq
      go_wp2
      go_end0
      exact ⟨rfl, L, hH, hLb.out, hgr⟩

set_option maxHeartbeats 4000000 in
theorem sum_any (ty n o : Nat) (A B : List Value) (lo g : Nat) (S : List Nat) (L : List Int) (W : List Nat) (w : World) (hS : ∀ x ∈ S, x < 4294967296) (h : HashIn ty n o A B w lo g S L W) :
    Calls Tryd.prog 83 #[.pointer (some ⟨g, o, none⟩)] w fun e w' => ∃ p c, e = .returned (.slice p 32 c) ∧ Own 5 w' w.heap.size w'.heap.size (.slice p 32 c) 32 (bytesL true (natsL S)) ∧ Below w.heap.size w w' := by
  have CW := hashWords_any ty n o A B lo g S L W w hS h
  have hl8 : (natsL S).length = 8 := by rw [natsL_length, h.1]
  go_enter Tryd.func83, Tryd.ntmps83
  go_wp2_with (fail)
  refine CW.mono ?_
  rintro e w5 ⟨p5, c5, rfl, r5, b5⟩
  clear CW
  go_wp2_with (fail)
  refine (implWordBytes_any p5 8 c5 true (natsL S) _ (by omega) hl8 r5.ints).mono ?_
  rintro e w6 ⟨p6, c6, rfl, r6, b6⟩
  go_wp2
  go_ret
  have hs2 := b5.size
  exact ⟨_, _, rfl, ⟨owns_mono r6.1 (by omega), r6.2⟩, below_on b5 b6⟩

end Go.Proofs.YtdjdanpicbaieaaDoor
