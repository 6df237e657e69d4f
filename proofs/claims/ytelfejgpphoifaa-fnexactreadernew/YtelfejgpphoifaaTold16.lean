/-
  The program's iterator over a list of rows, its marks, and what is among a list. Conditions: rows that can be read.
-/
import Derived.RangeFuncNested
import Derived.RangeFuncBound
import Derived.RangeFuncCalls
import Derived.RangeFuncLeaves
import Derived.Shelf.Abstract
import Derived.Shelf.RegionOpen
import Derived.OwnWalkIn
import Derived.TacticsInMore
import Derived.LoopNIn
import Derived.LoopIn
import Derived.Test.YtelfejgpphoifaaSpecRead
namespace Go.Proofs.Ytelfejgpphoifaa
open Go.RowKit Go.Shelf
set_option maxRecDepth 100000

attribute [local go_sem] Oper.semAt_some

theorem buildMark (w : World) (s : ByteArray) : (Instr.build 55 #[(0, .string s)]).run Try.prog w = .ok (.agg #[.string s]) w := by kernel_rfl

set_option maxHeartbeats 2000000 in
theorem markOf_any (x : RwA) (w : World) (ok : x.Ok w) :
    Calls Try.prog 38 #[.slice x.p x.n x.c] w fun z w' => z = .returned (.agg #[.string (strOfNums x.xs)]) ∧ w' = w.alloc (.cells #[.string (strOfNums x.xs)] 55) := by
  obtain ⟨p, n, c, xs⟩ := x
  have g := fun X (b : Below w.heap.size w X) => text_of (P := Try.prog) (in_below ok.bytes b) ok.len c 22 5 9 Try.underlying22 Try.underlying5 Try.underlying9
  dsimp only at g ⊢
  obtain ⟨s, hs⟩ : ∃ s, strOfNums xs = s := ⟨_, rfl⟩
  rw [hs] at g ⊢
  have g1 := fun o => g _ (made_below w o (Below.refl _ _))
  have bm := buildMark
  clear g hs ok
  go_enter Try.func38, Try.ntmps38
  go_wp2_with (fail)
  refine bodyPost_ret (v := .agg #[.string s]) ?_ rfl ⟨rfl, rfl⟩
  simp only [results, Try.f38]
  go_simp

theorem told_any (p : Option Addr) (n c : Nat) (w : World) :
    Calls Try.prog 35 #[.slice p n c] w fun z w' => z = .returned (.func (.func 39) #[] #[.pointer (some ⟨w.heap.size, 0, none⟩)]) ∧ w' = w.alloc (.cells #[.slice p n c] 23) := by
  go_enter Try.func35, Try.ntmps35
  go_wp2_with (fail)
  go_ret
  exact ⟨rfl, rfl⟩

theorem attach_step {α : Type} {rs : List α} {k : Nat} (h : k < rs.length) : rs.attach.take (k + 1) = rs.attach.take k ++ [⟨rs[k], List.getElem_mem h⟩] := by
  rw [List.take_add_one, List.getElem?_eq_getElem (by simpa using h)]
  simp

set_option maxHeartbeats 2000000 in
theorem told_stops (m : Nat) (hm : 1 ≤ m) (Bn : Nat) (p : Option Addr) (n c : Nat) (rs : List RwA) (w0 w : World) (hBn : Bn < w.heap.size) (hc : w.cell? ⟨Bn, 0, none⟩ = some (.slice p n c)) (hR : Rows w0 p n rs) (hb : Below w0.heap.size w0 w) :
    SeqStopsK Fence.wide m Try.prog 39 #[.pointer (some ⟨Bn, 0, none⟩)] (fun x : { x // x ∈ rs } => #[x.1.val]) (Below w0.heap.size) (fun ys => ys = rs.attach) (fun pre => pre <+: rs.attach) n w := fun l J Jx W hW _ _ hY h0 => by
  have hcW : W.cell? ⟨Bn, 0, none⟩ = some (.slice p n c) := (hW.cell (p := ⟨Bn, 0, none⟩) hBn).trans hc
  have hbW : Below w0.heap.size w0 W := hb.trans (hW.mono hb.size)
  have hl := hR.len
  clear hc hW hb
  refine callsIn_of_wp Try.func39 rfl trivial ?_ rfl
  simp only [Try.ntmps39, List.size_toArray, List.length_cons, List.length_nil, Nat.reduceAdd, Nat.reduceSub, Array.replicate_succ, Array.replicate_zero, List.push_toArray, List.append_toArray, List.nil_append, List.cons_append]
  gi_wp2
  gi_loopw [7] (fun i wr => ∃ k : Nat, k ≤ n ∧ i = .int .i64 k ∧ J (rs.attach.take k) wr ∧ Below w0.heap.size w0 wr) (fun i _ => n - (intOf i).toNat)
  case atStart => exact ⟨0, Nat.zero_le _, rfl, by simpa using h0, hbW⟩
  case round =>
    obtain ⟨k, hk, rfl, hJs, hbel⟩ := hrel
    clear hcW hbW h0
    have hn := hR.hn
    by_cases hlt : k < n
    · have hlt' : k < rs.length := by omega
      obtain ⟨b, o, x, rfl, c0, hx, okx⟩ := (hR.on hbel).at hlt
      have hst := attach_step hlt'
      obtain ⟨y, hy⟩ : ∃ y : { x // x ∈ rs }, y = ⟨rs[k], List.getElem_mem hlt'⟩ := ⟨_, rfl⟩
      rw [← hy] at hst
      have hyx : y.1 = x := by rw [hy, ← hx, List.getD_eq_getElem?_getD, List.getElem?_eq_getElem hlt', Option.getD_some]
      obtain ⟨fn, tmps, assign, body, hyy, hRR⟩ := hY _ y wr hJs (by simp; omega)
      rw [hyx] at hyy
      obtain ⟨xp, xn, xc, xs⟩ := x
      dsimp only [RwA.val] at c0 hyy
      rw [← hst] at hRR
      clear hy hx okx hyx hst hY hJs
      gi_wp2
      refine hRR.mono ?_
      rintro e W3 (⟨rfl, hJ3, hk3⟩ | ⟨rfl, hJx3⟩)
      · have hbel3 := hbel.trans (hk3.mono (Nat.le_refl _))
        gi_wp2
        go_roundw
        case rel => exact ⟨k + 1, by omega, by go_num, hJ3, hbel3⟩
        case measure => simp [intOf]; omega
      · gi_wp2
        refine bodyPost_ret (results_none rfl _ _ _) rfl ?_
        exact ⟨⟨_, rfl⟩, .inr ⟨_, List.take_prefix _ _, hJx3⟩⟩
    · have hkn : k = n := by omega
      subst hkn
      gi_wp2
      go_end0
      exact ⟨⟨_, rfl⟩, .inl ⟨_, rfl, by rwa [List.take_of_length_le (by simp; omega)] at hJs⟩⟩

end Go.Proofs.Ytelfejgpphoifaa
