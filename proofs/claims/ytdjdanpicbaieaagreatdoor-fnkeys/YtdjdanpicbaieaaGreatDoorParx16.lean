/-
  A lock and a once of one goroutine: what sync's own functions do to a lock that is free and to a once that was not done (their texts walked at this program's numbers). Conditions: each fact's own.
-/
import Derived.Test.YtdjdanpicbaieaaGreatDoorParx02
import Derived.Test.YtdjdanpicbaieaaGreatDoorParx13
import Derived.Maps.OwnSet
import Derived.Maps.AppendAt
import Derived.Test.YtdjdanpicbaieaaGreatDoorChecked
import Derived.Tactics2
import Derived.Defers
import Derived.Laws.Pointers
import Derived.Laws.LoneSync
import Derived.Laws.NewBlocks
import Derived.RegionCalls
namespace Go.Proofs.YtdjdanpicbaieaaGreatDoor
open Go.RowKit
set_option maxRecDepth 100000

theorem disableS (w : World) : (callFunc 105 #[]).run Tryz.prog w = .ok (.value (.tuple #[])) w := run_call_mark0 Tryz.func105 (by kernel_rfl) (by kernel_rfl) (by kernel_rfl) .disable (by kernel_rfl) w
theorem enableS (w : World) : (callFunc 107 #[]).run Tryz.prog w = .ok (.value (.tuple #[])) w := run_call_mark0 Tryz.func107 (by kernel_rfl) (by kernel_rfl) (by kernel_rfl) .enable (by kernel_rfl) w
theorem acquireS (a : Addr) (w : World) : (callFunc 108 #[.pointer (some a)]).run Tryz.prog w = .ok (.value (.tuple #[])) w := run_call_marked Tryz.func108 (by kernel_rfl) (by kernel_rfl) (by kernel_rfl) .acquire (by kernel_rfl) a w
theorem releaseMergeS (a : Addr) (w : World) : (callFunc 110 #[.pointer (some a)]).run Tryz.prog w = .ok (.value (.tuple #[])) w := run_call_marked Tryz.func110 (by kernel_rfl) (by kernel_rfl) (by kernel_rfl) .releaseMerge (by kernel_rfl) a w

/-- '(*sync/atomic.Bool).Store(true)' as a deferred call: the cell holds 1. -/
theorem store_deferred (a : Addr) (x : Value) (u : FrameMode) (w : World) (hc : w.cell? a = some x) (hz : w.frozen? a = false) :
    CallsD Tryz.prog 104 #[.pointer (some a), .bool true] u w fun e u' w' => u' = u ∧ (e = .returned (.tuple #[]) ∧ w' = w.drew.setCell a (.int .u32 1)) := by
  have hc' : w.drew.cell? a = some x := by go_simp
  have hz' : w.drew.frozen? a = false := by go_simp
  have hst := run_call_store (P := Tryz.prog) Tryz.func136 (by kernel_rfl) (by kernel_rfl) (by kernel_rfl) (by kernel_rfl) (k := .u32) (y := 1) hc' hz'
  go_enter_d Tryz.func104, Tryz.ntmps104
  go_wp2
  go_region_calls
  all_goals (go_end0; exact ⟨rfl, rfl⟩)

theorem unlock_deferred (a : Addr) (u : FrameMode) (w : World) (hc : w.cell? a = some (.int .i32 1)) (hz : w.frozen? a = false) :
    CallsD Tryz.prog 47 #[.pointer (some a)] u w fun e u' w' => u' = u ∧ (e = .returned (.tuple #[]) ∧ w' = w.setCell a (.int .i32 0)) := by
  have hd := disableS
  have he := enableS
  have hr := releaseMergeS
  have hadd := run_call_add (P := Tryz.prog) Tryz.func111 (by kernel_rfl) (by kernel_rfl) (by kernel_rfl) .i32 (by kernel_rfl) (y := -1) (s := 0) hc hz (by simp [go_sem]; rfl)
  have hcv := run_convert_to_unsafe (P := Tryz.prog) (src := 124) (dst := 128) Tryz.underlying124 Tryz.underlying128 (by kernel_rfl) hc
  go_enter_d Tryz.func47, Tryz.ntmps47
  go_wp2
  go_end0
  go_wp2
  go_end0
  exact ⟨rfl, rfl⟩

theorem lock_free (a : Addr) (w : World) (hc : w.cell? a = some (.int .i32 0)) (hz : w.frozen? a = false) :
    Calls Tryz.prog 46 #[.pointer (some a)] w fun e w' => e = .returned (.tuple #[]) ∧ w' = w.setCell a (.int .i32 1) := by
  have hd := disableS
  have he := enableS
  have ha := acquireS
  have hcas := run_call_cas_hit (P := Tryz.prog) Tryz.func106 (by kernel_rfl) (by kernel_rfl) (by kernel_rfl) .i32 (by kernel_rfl) (y := 1) hc hz
  have hc' : (w.setCell a (.int .i32 1)).cell? a = some (.int .i32 1) := World.cell?_setCell_same w a _ hc
  have hcv := run_convert_to_unsafe (P := Tryz.prog) (src := 124) (dst := 128) Tryz.underlying124 Tryz.underlying128 (by kernel_rfl) hc'
  go_enter Tryz.func46, Tryz.ntmps46
  go_wp2
  first | go_end0 | (simp only [Exit.inBlock, Exit.then]; refine bodyPost_ret (results_none rfl _ _ _) rfl ?_) | refine bodyPost_ret (results_none rfl _ _ _) rfl ?_
  go_wp2
  go_end0
  exact ⟨rfl, rfl⟩

/-- A ring of keys lies at block R: its seed, whether it was begun, the once's lock, the ring's lock, its map. -/
def RingAt (w : World) (R : Nat) (s : Value) (d m l : Int) (k : Value) : Prop := Cells w R #[s, .int .u32 d, .int .i32 m, .int .u32 0, .int .i32 l, .int .u32 0, k]
theorem RingAt.c0 {w : World} {R : Nat} {s : Value} {d m l : Int} {k : Value} (h : RingAt w R s d m l k) : w.cell? ⟨R, 0, none⟩ = some s := (h.2 0).1
theorem RingAt.c1 {w : World} {R : Nat} {s : Value} {d m l : Int} {k : Value} (h : RingAt w R s d m l k) : w.cell? ⟨R, 1, none⟩ = some (.int .u32 d) := (h.2 1).1
theorem RingAt.c2 {w : World} {R : Nat} {s : Value} {d m l : Int} {k : Value} (h : RingAt w R s d m l k) : w.cell? ⟨R, 2, none⟩ = some (.int .i32 m) := (h.2 2).1
theorem RingAt.c4 {w : World} {R : Nat} {s : Value} {d m l : Int} {k : Value} (h : RingAt w R s d m l k) : w.cell? ⟨R, 4, none⟩ = some (.int .i32 l) := (h.2 4).1
theorem RingAt.c6 {w : World} {R : Nat} {s : Value} {d m l : Int} {k : Value} (h : RingAt w R s d m l k) : w.cell? ⟨R, 6, none⟩ = some k := (h.2 6).1
theorem RingAt.z {w : World} {R : Nat} {s : Value} {d m l : Int} {k : Value} (h : RingAt w R s d m l k) (i : Nat) : w.frozen? ⟨R, i, none⟩ = false := (h.2 i).2
theorem RingAt.s1 {w : World} {R : Nat} {s : Value} {d m l : Int} {k : Value} (h : RingAt w R s d m l k) (x : Int) : RingAt (w.setCell ⟨R, 1, none⟩ (.int .u32 x)) R s x m l k := Cells.set h 1 (show 1 < 7 by omega) (.int .u32 x)
theorem RingAt.s2 {w : World} {R : Nat} {s : Value} {d m l : Int} {k : Value} (h : RingAt w R s d m l k) (x : Int) : RingAt (w.setCell ⟨R, 2, none⟩ (.int .i32 x)) R s d x l k := Cells.set h 2 (show 2 < 7 by omega) (.int .i32 x)
theorem RingAt.s4 {w : World} {R : Nat} {s : Value} {d m l : Int} {k : Value} (h : RingAt w R s d m l k) (x : Int) : RingAt (w.setCell ⟨R, 4, none⟩ (.int .i32 x)) R s d m x k := Cells.set h 4 (show 4 < 7 by omega) (.int .i32 x)
theorem RingAt.s6 {w : World} {R : Nat} {s : Value} {d m l : Int} {k : Value} (h : RingAt w R s d m l k) (x : Value) : RingAt (w.setCell ⟨R, 6, none⟩ x) R s d m l x := Cells.set h 6 (show 6 < 7 by omega) x
theorem RingAt.grown {w w' : World} {R : Nat} {s : Value} {d m l : Int} {k : Value} {r : Option Nat} (h : RingAt w R s d m l k) (hg : w.grownBy w' r) (hr : some R ≠ r) : RingAt w' R s d m l k := Cells.grown h hg hr
theorem set_grown (w : World) (R i : Nat) (v : Value) : w.grownBy (w.setCell ⟨R, i, none⟩ v) (some R) := ⟨rfl, rfl, rfl, by simp [World.setCell], fun k _ hk => Below.heap_setCell _ _ _ k (fun e => hk (by rw [e]))⟩
theorem drew_grown (w : World) (r : Option Nat) : w.grownBy w.drew r := ⟨rfl, rfl, rfl, Nat.le_refl _, fun _ _ _ => rfl⟩

theorem begin_ring (R : Nat) (s : Value) (d m l : Int) (k : Value) (w : World) (h : RingAt w R s d m l k) :
    Calls Tryz.prog 45 #[.pointer (some ⟨R, 0, none⟩)] w fun e w' => e = .returned (.tuple #[]) ∧ RingAt w' R s d m l (.map (some w.heap.size)) ∧ w'.heap[w.heap.size]? = some (.map #[] 0) ∧ w.grownBy w' (some R) := by
  have hmm := @run_makeMap Tryz.prog
  have hA : RingAt (w.alloc (.map #[] 0)) R s d m l k := h.grown (World.grownBy_alloc w _ none) (by simp)
  have h6 := hA.c6
  have z6 := hA.z 6
  have hfin := hA.s6 (.map (some w.heap.size))
  have hm : ((w.alloc (.map #[] 0)).setCell ⟨R, 6, none⟩ (.map (some w.heap.size))).heap[w.heap.size]? = some (.map #[] 0) := by
    rw [Below.heap_setCell _ _ _ _ (by have := h.1; show w.heap.size ≠ R; omega)]
    exact heap_made _ _
  have hg : w.grownBy ((w.alloc (.map #[] 0)).setCell ⟨R, 6, none⟩ (.map (some w.heap.size))) (some R) := (World.grownBy_alloc w _ _).trans (set_grown _ _ _ _)
  clear hA
  go_enter Tryz.func45, Tryz.ntmps45
  go_wp2
  go_end0
  exact ⟨rfl, hfin, hm, hg⟩

set_option maxHeartbeats 1600000 in
theorem slow_ring (R : Nat) (s : Value) (l : Int) (k : Value) (w : World) (h : RingAt w R s 0 0 l k) :
    Calls Tryz.prog 71 #[.pointer (some ⟨R, 1, none⟩), .func (.func 45) #[.pointer (some ⟨R, 0, none⟩)] #[]] w fun e w' => e = .returned (.tuple #[]) ∧ ∃ M, w.heap.size ≤ M ∧ RingAt w' R s 1 0 l (.map (some M)) ∧ w'.heap[M]? = some (.map #[] 0) ∧ w.grownBy w' (some R) := by
  have hnot : ∀ (x : Bool) (w : World), (Op.unary .not (.bool x)).run Tryz.prog w = .ok (.bool (!x)) w := fun _ _ => rfl
  have h1 := h.s2 1
  have g1 := set_grown w R 2 (.int .i32 1)
  have CL := lock_free ⟨R, 2, none⟩ w h.c2 (h.z 2)
  generalize w.setCell ⟨R, 2, none⟩ (.int .i32 1) = w1 at h1 g1 CL
  have hl := run_call_load (P := Tryz.prog) Tryz.func103 (by kernel_rfl) (by kernel_rfl) (by kernel_rfl) .u32 (by kernel_rfl) h1.c1
  have CB := begin_ring R s 0 1 l k w1 h1
  go_enter_defers Tryz.func71, Tryz.ntmps71
  go_wp2_with (first | (go_at_call 46; refine CL.mono ?_; rintro e w' ⟨rfl, hw⟩; rw [hw]; clear hw w') | (go_at_call 70; go_in) | (go_at_call 45; refine CB.mono ?_; rintro e w2 ⟨rfl, h2, hM, g2⟩))
  -- the door: two deferred calls, the last laid first
  refine leaves_cons (f := 104) (args := #[.pointer (some ⟨R, 1, none⟩), .bool true]) (by simp) (by simp [go_sem]) ?_
  refine (store_deferred ⟨R, 1, none⟩ (.int .u32 0) .returning _ h2.c1 (h2.z 1)).mono ?_
  rintro e u' w3' ⟨rfl, rfl, rfl⟩
  have h3 : RingAt (w2.drew.setCell ⟨R, 1, none⟩ (.int .u32 1)) R s 1 1 l (.map (some w1.heap.size)) := RingAt.s1 (h2.grown (drew_grown w2 none) (by simp)) 1
  have g3 : w2.grownBy (w2.drew.setCell ⟨R, 1, none⟩ (.int .u32 1)) (some R) := (drew_grown w2 _).trans (set_grown _ _ _ _)
  generalize w2.drew.setCell ⟨R, 1, none⟩ (.int .u32 1) = w3 at h3 g3 ⊢
  refine leaves_cons (f := 47) (args := #[.pointer (some ⟨R, 2, none⟩)]) (by simp [settle]) (by simp [go_sem]) ?_
  refine (unlock_deferred ⟨R, 2, none⟩ _ _ h3.c2 (h3.z 2)).mono ?_
  rintro e u' w4 ⟨rfl, rfl, rfl⟩
  have h4 := h3.s2 0
  have g4 := set_grown w3 R 2 (.int .i32 0)
  have hM4 : (w3.setCell ⟨R, 2, none⟩ (.int .i32 0)).heap[w1.heap.size]? = some (.map #[] 0) := by
    have hne : some w1.heap.size ≠ some R := fun x => by have := h1.1; cases x; omega
    have hlt : w1.heap.size < w2.heap.size := by
      rcases Nat.lt_or_ge w1.heap.size w2.heap.size with x | x
      · exact x
      · rw [Array.getElem?_eq_none x] at hM; cases hM
    rw [g4.block _ (Nat.lt_of_lt_of_le hlt g3.size) hne, g3.block _ hlt hne]
    exact hM
  simp [Leaves, settle, results, Tryz.results71]
  exact ⟨w1.heap.size, g1.size, h4, hM4, ((g1.trans g2).trans g3).trans g4⟩

set_option maxHeartbeats 1600000 in
theorem do_ring (R : Nat) (s : Value) (l : Int) (k : Value) (w : World) (h : RingAt w R s 0 0 l k) :
    Calls Tryz.prog 44 #[.pointer (some ⟨R, 1, none⟩), .func (.func 45) #[.pointer (some ⟨R, 0, none⟩)] #[]] w fun e w' => e = .returned (.tuple #[]) ∧ ∃ M, w.heap.size ≤ M ∧ RingAt w' R s 1 0 l (.map (some M)) ∧ w'.heap[M]? = some (.map #[] 0) ∧ w.grownBy w' (some R) := by
  have hnot : ∀ (x : Bool) (w : World), (Op.unary .not (.bool x)).run Tryz.prog w = .ok (.bool (!x)) w := fun _ _ => rfl
  have hl := run_call_load (P := Tryz.prog) Tryz.func103 (by kernel_rfl) (by kernel_rfl) (by kernel_rfl) .u32 (by kernel_rfl) h.c1
  have CS := slow_ring R s l k w h
  go_enter Tryz.func44, Tryz.ntmps44
  go_wp2_with (first | (go_at_call 71; refine CS.mono ?_; rintro e w' ⟨rfl, hw'⟩) | (go_at_call 70; go_in))
  go_end0
  exact ⟨rfl, hw'⟩

end Go.Proofs.YtdjdanpicbaieaaGreatDoor
