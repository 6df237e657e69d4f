/-
  slices.Chunk of bytes by threes: the slices that it hands over, one after another. Conditions: bytes that lie there.
-/
import Derived.RangeFuncNested
import Derived.RangeFuncBound
import Derived.RangeFuncCalls
import Derived.RangeFuncLeaves
import Derived.Shelf.Abstract
import Derived.Shelf.RegionOpen
import Derived.OwnWalkIn
import Derived.TacticsInMore
import Derived.LoopNIn
import Derived.LoopIn
import Derived.Test.YtkkaipeklbhliaaInfo
namespace Go.Proofs.Ytkkaipeklbhliaa
open Go.RowKit Go.Shelf
set_option maxRecDepth 100000

attribute [local go_sem] Oper.semAt_some

theorem chunk_any (p : Option Addr) (n c : Nat) (w : World) :
    Calls Try.prog 24 #[.slice p n c, .int .i64 3] w fun z w' => z = .returned (.func (.func 36) #[] #[.pointer (some ⟨w.heap.size, 0, none⟩), .pointer (some ⟨w.heap.size + 1, 0, none⟩)]) ∧ w' = (w.alloc (.cells #[.slice p n c] 22)).alloc (.cells #[.int .i64 3] 3) := by
  go_enter Try.func24, Try.ntmps24
  go_wp2_with (fail)
  go_ret
  exact ⟨rfl, rfl⟩

/-- How many threes there are; how many bytes the i-th has; the slice that holds it. -/
def ckK (n : Nat) : Nat := (n + 2) / 3
def ckM (n i : Nat) : Nat := if 3 ≤ n - 3 * i then 3 else n - 3 * i
def ckV (b o n i : Nat) : Value := .slice (some ⟨b, o + 3 * i, none⟩) (ckM n i) (ckM n i)
theorem ckM_le (n i : Nat) : ckM n i ≤ 3 := by unfold ckM; split <;> omega
theorem ckM_pos {n i : Nat} (h : i < ckK n) : 0 < ckM n i := by unfold ckM; unfold ckK at h; split <;> omega
theorem ckM_fit {n i : Nat} (h : i < ckK n) : 3 * i + ckM n i ≤ n := by unfold ckM; unfold ckK at h; split <;> omega

theorem slice_at (b o n c l : Nat) (hl : l < n) (hc : n ≤ c) (W : World) : (Instr.slice 22 (.slice (some ⟨b, o, none⟩) n c) (some (.int .i64 (l : Int))) none none).run Try.prog W = .ok (.slice (some ⟨b, o + l, none⟩) (n - l) (c - l)) W := by
  have ht' : Try.prog.underlying 22 = some (.slice (Try.prog.elem 22)) := by simp [Program.elem, Try.underlying22]
  have he : Try.prog.elem 22 = 5 := by simp [Program.elem, Try.underlying22]
  obtain ⟨i0, hi, hz0, hz1, hz2⟩ := info_parts infoByte
  rw [run_slice_l W 22 _ _ _ ht' .i64 l (by omega) (by omega), he]
  simp [sizeOf, typeInfo, hi, hz1, sliced, Addr.add, show c ≠ l by omega]
theorem slice_part (b o n c l m : Nat) (hm : 0 < m) (hl : l + m ≤ n) (hc : n ≤ c) (W : World) : (Instr.slice 22 (.slice (some ⟨b, o, none⟩) n c) (some (.int .i64 (l : Int))) (some (.int .i64 ((l + m : Nat) : Int))) (some (.int .i64 ((l + m : Nat) : Int)))).run Try.prog W = .ok (.slice (some ⟨b, o + l, none⟩) m m) W := by
  have ht' : Try.prog.underlying 22 = some (.slice (Try.prog.elem 22)) := by simp [Program.elem, Try.underlying22]
  have he : Try.prog.elem 22 = 5 := by simp [Program.elem, Try.underlying22]
  obtain ⟨i0, hi, hz0, hz1, hz2⟩ := info_parts infoByte
  rw [run_slice_lhm W 22 _ _ _ ht' .i64 .i64 .i64 l ((l + m : Nat) : Int) ((l + m : Nat) : Int) (by omega) (by omega) (by omega) (by omega), he]
  have e : ¬ (l + m = l) := by omega
  have eT : ((l : Int) + (m : Int)).toNat = l + m := by omega
  simp [sizeOf, typeInfo, hi, hz1, sliced, Addr.add, eT, show m ≠ 0 by omega]

/-- Two blocks lie as they lay. -/
def Two (a b : Nat) (W W' : World) : Prop := W'.heap[a]? = W.heap[a]? ∧ W'.heap[b]? = W.heap[b]?
theorem Two.refl (a b : Nat) (W : World) : Two a b W W := ⟨rfl, rfl⟩
theorem Two.trans {a b : Nat} {A B C : World} (h : Two a b A B) (k : Two a b B C) : Two a b A C := ⟨k.1.trans h.1, k.2.trans h.2⟩
theorem Two.cell {a b : Nat} {W W' : World} (h : Two a b W W') : W'.cell? ⟨a, 0, none⟩ = W.cell? ⟨a, 0, none⟩ ∧ W'.cell? ⟨b, 0, none⟩ = W.cell? ⟨b, 0, none⟩ := by
  simp only [World.cell?, h.1, h.2, and_self]
theorem Two.of_below {a b B : Nat} {W W' : World} (h : Below B W W') (ha : a < B) (hb : b < B) : Two a b W W' := ⟨h.block a ha, h.block b hb⟩

theorem fin_step {K k : Nat} (h : k < K) : (List.finRange K).take (k + 1) = (List.finRange K).take k ++ [⟨k, h⟩] := by
  rw [List.take_add_one, List.getElem?_eq_getElem (by simpa using h)]
  simp

set_option maxHeartbeats 2000000 in
theorem chunk_stops (m : Nat) (hm : 1 ≤ m) (Bs Bn b o n c : Nat) (w : World) (hBs : Bs < w.heap.size) (hBn : Bn < w.heap.size) (p : Option Addr) (hp : 0 < n → p = some ⟨b, o, none⟩) (hs : w.cell? ⟨Bs, 0, none⟩ = some (.slice p n c)) (hn : w.cell? ⟨Bn, 0, none⟩ = some (.int .i64 3)) (hc : n ≤ c) (hn2 : n ≤ 1048576) :
    SeqStopsK Fence.wide m Try.prog 36 #[.pointer (some ⟨Bs, 0, none⟩), .pointer (some ⟨Bn, 0, none⟩)] (fun x : Fin (ckK n) => #[ckV b o n x.1]) (Two Bs Bn) (fun ys => ys = List.finRange (ckK n)) (fun pre => pre <+: List.finRange (ckK n)) (ckK n) w := fun l J Jx W hW hJ _ hY h0 => by
  have hT : Two Bs Bn w W := Two.of_below hW hBs hBn
  clear hW
  refine callsIn_of_wp Try.func36 rfl trivial ?_ rfl
  simp only [Try.ntmps36, List.size_toArray, List.length_cons, List.length_nil, Nat.reduceAdd, Nat.reduceSub, Array.replicate_succ, Array.replicate_zero, List.push_toArray, List.append_toArray, List.nil_append, List.cons_append]
  gi_wp2
  gi_loopw [4] (fun i wr => ∃ (k L : Nat), k ≤ ckK n ∧ i = .int .i64 (L : Int) ∧ Hid (L = 3 * k) ∧ J ((List.finRange (ckK n)).take k) wr ∧ Two Bs Bn w wr) (fun i _ => n + 3 - (intOf i).toNat)
  case atStart => exact ⟨0, 0, Nat.zero_le _, rfl, by rw [Hid], by simpa using h0, hT⟩
  case round =>
    obtain ⟨k, L, hk, rfl, hL, hJs, hT2⟩ := hrel
    clear hT h0
    have hLe := hL.out
    have c1 := hT2.cell.1.trans hs
    have c2 := hT2.cell.2.trans hn
    by_cases hlt : k < ckK n
    · have hkn : L < n := by unfold ckK at hlt; omega
      obtain rfl := hp (by omega)
      have i1 : (L : Int) < (n : Int) := by omega
      have i0 : (0 : Int) ≤ (L : Int) := by omega
      have i2 : (n : Int) ≤ 1048576 := by omega
      obtain ⟨r, hr⟩ : ∃ r, n - L = r := ⟨_, rfl⟩
      obtain ⟨M, hM⟩ : ∃ M, M = ckM n k := ⟨_, rfl⟩
      have hM0 : 0 < M := by rw [hM]; exact ckM_pos hlt
      have hM3 : M ≤ 3 := by rw [hM]; exact ckM_le n k
      have hMn : L + M ≤ n := by rw [hM, hLe]; exact ckM_fit hlt
      have hMr : (if (r : Int) < 3 then (r : Int) else 3) = (M : Int) := by rw [hM, ← hr, hLe]; unfold ckM; split <;> split <;> omega
      have sl1 := fun X => slice_at b o n c L hkn hc X
      have sl2 := fun X => slice_part b o n c L M hM0 hMn hc X
      simp only [show ((L + M : Nat) : Int) = (L : Int) + (M : Int) from rfl] at sl2
      simp only [hr] at sl1
      have hst := fin_step hlt
      obtain ⟨y, hy⟩ : ∃ y : Fin (ckK n), y = ⟨k, hlt⟩ := ⟨_, rfl⟩
      rw [← hy] at hst
      have hyv : ckV b o n y.1 = .slice (some ⟨b, o + L, none⟩) M M := by rw [hy]; unfold ckV; rw [hM, hLe]
      have hJd : ∀ X, wr.grownBy X none → J ((List.finRange (ckK n)).take k) X := fun X hg => hJ _ _ _ _ hJs hg (fun r e => by cases e)
      have hlen : ((List.finRange (ckK n)).take k).length < ckK n := by simp; omega
      have YY := fun X hg => hY _ y X (hJd X hg) hlen
      clear hr hM hy hJs hJd hlen hY hLe
      gi_wp2
      refine wpIn_wide.2 ?_
      go_quiet (fail)
      have hg3 : wr.grownBy (wr.drewN nq) none := ⟨rfl, rfl, rfl, Nat.le_refl _, fun _ _ _ => rfl⟩
      have hT3 : Two Bs Bn w (wr.drewN nq) := hT2.trans ⟨rfl, rfl⟩
      have d1 : (wr.drewN nq).cell? ⟨Bs, 0, none⟩ = some (.slice (some ⟨b, o, none⟩) n c) := c1
      have d2 : (wr.drewN nq).cell? ⟨Bn, 0, none⟩ = some (.int .i64 3) := c2
      obtain ⟨W3, hW3⟩ : ∃ W3, W3 = wr.drewN nq := ⟨_, rfl⟩
      rw [← hW3] at hg3 hT3 d1 d2 ⊢
      obtain ⟨fn, tmps, assign, body, hyy, hRR⟩ := YY _ hg3
      rw [hyv] at hyy
      clear YY hJ hyv c1 c2 hW3 hg3 hT2
      rw [← hst] at hRR
      gi_wp2
      refine hRR.mono ?_
      rintro e W4 (⟨rfl, hJ3, hk3⟩ | ⟨rfl, hJx3⟩)
      · have hT4 := hT3.trans hk3
        have e1 := hT4.cell.1.trans hs
        have e2 := hT4.cell.2.trans hn
        gi_wp2
        go_roundw
        case rel => exact ⟨k + 1, L + 3, by omega, rfl, by have := hL.out; rw [Hid]; omega, hJ3, hT4⟩
        case measure => simp [intOf]; omega
      · gi_wp2
        refine bodyPost_ret (results_none rfl _ _ _) rfl ?_
        exact ⟨⟨_, rfl⟩, .inr ⟨_, List.take_prefix _ _, hJx3⟩⟩
    · have hkn : k = ckK n := by omega
      have hLn : n ≤ L := by unfold ckK at hkn; omega
      have i1 : (n : Int) ≤ (L : Int) := by omega
      clear hL hLe
      gi_wp2
      go_end0
      exact ⟨⟨_, rfl⟩, .inl ⟨_, rfl, by rwa [hkn, List.take_of_length_le (by simp)] at hJs⟩⟩

end Go.Proofs.Ytkkaipeklbhliaa
