/-
  Epochs: whether one has keys, and how an epoch is told behind a word, in the program and in the specification. Conditions: each fact's own.
  A lock and a once of one goroutine: what sync's own functions do to a lock that is free and to a once that was not done (their texts walked at this program's numbers). Conditions: each fact's own.
-/
import Derived.Test.YtdjdanpicbaieaaDoorGreat
import Derived.Test.YtdjdanpicbaieaaDoorConcatNil
import Derived.Test.YtdjdanpicbaieaaDoorCopCells
import Derived.Lib.SlBytesConst
import Derived.Lib.ConvBytes
import Derived.ArgAppend
import Derived.Test.YtdjdanpicbaieaaDoorInfo
import Derived.Maps.OwnSet
import Derived.Maps.AppendAt
import Derived.Test.YtdjdanpicbaieaaDoorChecked
import Derived.Tactics2
import Derived.Defers
import Derived.Laws.Pointers
import Derived.Laws.LoneSync
import Derived.Laws.NewBlocks
import Derived.RegionCalls
namespace Go.Proofs.YtdjdanpicbaieaaDoor
open Go.RowKit
set_option maxRecDepth 100000

/-- 'epoch', 'route' -/
def epochL : List Int := [101, 112, 111, 99, 104]
def routeL : List Int := [114, 111, 117, 116, 101]
theorem epochL_byte : ∀ x ∈ epochL, 0 ≤ x ∧ x < 256 := by decide
theorem routeL_byte : ∀ x ∈ routeL, 0 ≤ x ∧ x < 256 := by decide
/-- An epoch behind a word. -/
def tellL (info : List Int) (e : Int) : List Int := info ++ (fitL e 2).reverse
/-- Is there a key of so many bytes' seed and that epoch? -/
def hasB (n : Nat) (e : Int) : Bool := decide (n = 32 ∧ 0 ≤ e ∧ e ≤ 40)
theorem hasB_yes {n : Nat} {e : Int} (h : n = 32 ∧ 0 ≤ e ∧ e ≤ 40) : hasB n e = true := decide_eq_true h
theorem hasB_no {n : Nat} {e : Int} (h : ¬ (n = 32 ∧ 0 ≤ e ∧ e ≤ 40)) : hasB n e = false := decide_eq_false h
theorem fitE_two {e : Int} (h : 0 ≤ e ∧ e ≤ 40) : fitN e 2 = 2 := by simp [fitN, fitB, h.1]
theorem fitE_len {e : Int} (h : 0 ≤ e ∧ e ≤ 40) : (fitL e 2).length = 2 := by rw [fitL, littleL_length, fitE_two h]
theorem fitE_byte (e : Int) : ∀ x ∈ fitL e 2, 0 ≤ x ∧ x < 256 := fun x hx => by
  obtain ⟨i, _, rfl⟩ := List.mem_map.1 hx
  exact ⟨Int.emod_nonneg _ (by decide), Int.emod_lt_of_pos _ (by decide)⟩
theorem tellL_length {info : List Int} (hi : info.length = 5) {e : Int} (h : 0 ≤ e ∧ e ≤ 40) : (tellL info e).length = 7 := by rw [tellL, List.length_append, List.length_reverse, fitE_len h, hi]
theorem tellL_byte {info : List Int} (hi : ∀ x ∈ info, 0 ≤ x ∧ x < 256) (e : Int) : ∀ x ∈ tellL info e, 0 ≤ x ∧ x < 256 := fun x hx => by
  rcases List.mem_append.1 hx with h | h
  · exact hi x h
  · exact fitE_byte e x (List.mem_reverse.1 h)

theorem hasKeys_any (p : Option Addr) (n c : Nat) (e : Int) (w : World) :
    Calls Tryd.prog 32 #[.slice p n c, .int .i64 e] w fun r w' => r = .returned (.bool (hasB n e)) ∧ w' = w := by
  by_cases hn : n = 32
  · subst hn
    go_enter Tryd.func32, Tryd.ntmps32
    go_wp2
    all_goals
      go_ret
      refine ⟨?_, rfl⟩
      congr 2
      unfold hasB
      simp
      try omega
  · have hd : ((n : Int) == 32) = false := by simp; omega
    rw [hasB_no (fun h => hn h.1)]
    go_enter Tryd.func32, Tryd.ntmps32
    go_wp2
    go_ret
    exact ⟨rfl, rfl⟩

theorem l1In_any (n a b : Int) (w : World) :
    Calls Tryd.prog 29 #[.int .i64 n, .int .i64 a, .int .i64 b] w fun r w' => r = .returned (.bool (decide (a ≤ n ∧ n ≤ b))) ∧ w' = w := by
  go_enter Tryd.func29, Tryd.ntmps29
  go_wp2
  all_goals
    go_ret
    refine ⟨?_, rfl⟩
    congr 2
    simp
    try omega

/-- The bytes of a string. -/
def numsOf (s : ByteArray) : List Int := s.data.toList.map fun b => (b.toNat : Int)
theorem numsOf_length (s : ByteArray) : (numsOf s).length = s.size := by rw [numsOf, List.length_map, Array.length_toList]; rfl
theorem bytesWorld_below (w : World) (s : ByteArray) : Below w.heap.size w (Lib.bytesWorld w 5 s) :=
  ⟨rfl, rfl, rfl, by rw [Lib.bytesWorld_size]; omega, fun k hk => Lib.bytesWorld_at_old w 5 s k hk⟩
theorem bytesWorld_in (w : World) (s : ByteArray) : BytesIn (Lib.bytesWorld w 5 s) (some ⟨w.heap.size, 0, none⟩) s.size (numsOf s) := fun _ => by
  refine ⟨w.heap.size, 0, rfl, fun i hi => ?_⟩
  rw [Nat.zero_add, Lib.bytesWorld_cell w 5 s i hi]
  have hl : i < s.data.toList.length := by simpa using hi
  simp [numsOf, List.getD_eq_getElem?_getD, List.getElem?_eq_getElem hl]

set_option maxHeartbeats 2000000 in
theorem ofEpoch_any (s : ByteArray) (e : Int) (w : World) (hs : s.size = 5) (he : 0 ≤ e ∧ e ≤ 40) :
    Calls Tryd.prog 38 #[.string s, .int .i64 e] w fun r w' => ∃ p c, r = .returned (.slice p 7 c) ∧ Own 5 w' w.heap.size w'.heap.size (.slice p 7 c) 7 (tellL (numsOf s) e) ∧ Below w.heap.size w w' := by
  have kc := Lib.run_convert_string_bytes (P := Tryd.prog) w 9 22 5 s Tryd.underlying9 Tryd.underlying22 Tryd.underlying5
  have b0 := bytesWorld_below w s
  have i0 := bytesWorld_in w s
  generalize Lib.bytesWorld w 5 s = w0 at kc b0 i0
  generalize grownCap w s.size 0 5 = cc at kc
  rw [hs] at kc i0
  have CG := implGreat_any e 2 w0 (by omega)
  rw [fitE_two he] at CG
  have hxl : (numsOf s).length = 5 := by rw [numsOf_length, hs]
  obtain ⟨XL, hXL⟩ : ∃ XL, XL = numsOf s := ⟨_, rfl⟩
  obtain ⟨GL, hGL⟩ : ∃ GL, GL = (fitL e 2).reverse := ⟨_, rfl⟩
  have hgl : GL.length = 2 := by rw [hGL, List.length_reverse, fitE_len he]
  rw [tellL, ← hGL, ← hXL]
  rw [← hXL] at hxl i0
  rw [← hGL] at CG
  clear hXL hGL
  go_enter Tryd.func38, Tryd.ntmps38
  go_wp2_with (fail)
  refine CG.mono ?_
  rintro r w1 ⟨p1, c1, rfl, r1, b1⟩
  have k1 := below_on b0 b1
  have i1 := in_below i0 b1
  have CC := concatTwo (some ⟨w.heap.size, 0, none⟩) p1 5 2 cc c1 XL GL w1 hxl hgl (by omega) i1 r1.bytes
  go_wp2_with (fail)
  refine CC.mono ?_
  rintro r w2 ⟨p2, c2, rfl, r2, b2⟩
  go_wp2
  go_ret
  exact ⟨_, _, rfl, ⟨owns_mono r2.1 k1.size, r2.2⟩, below_on k1 b2⟩

/-- A literal's bytes, marked as a conversion's. -/
theorem lit_in (w : World) (ty : Nat) (fz : Nat × Nat) (a b c d e : Int) : BytesIn (w.alloc (.cells #[.int .u8 a, .int .u8 b, .int .u8 c, .int .u8 d, .int .u8 e] ty fz)) (some ⟨w.heap.size, 0, none⟩) 5 [a, b, c, d, e] := by
  intro _
  refine ⟨w.heap.size, 0, rfl, fun i hi => ?_⟩
  rw [cell_of_row _ _ _ _ _ _ (heap_made w _)]
  match i, hi with
  | 0, _ => rfl
  | 1, _ => rfl
  | 2, _ => rfl
  | 3, _ => rfl
  | 4, _ => rfl

/-- 'append(full, b...)' of bytes: a new row. -/
theorem list_grows {P : Program} {e : TypeId} {i : TypeInfo} {n m c : Nat} {w : World} {q p : Option Addr} {xs ys : List Int} {ops : Array Oper} {rest : List Oper} {o : Oper} {a : Act} {Q : Exit → Act → World → Prop} (hi : P.info? e = some i) (hz : i.zero = some (.int .u8 0)) (hsize : i.size = 1) (hby : i.bytes = 1)
    (s y : Operand) (t : TypeId) (ht : P.underlying t = some (.slice e)) (hp : BytesIn w q n xs) (hx : xs.length = n) (hn0 : 0 < n) (hin : BytesIn w p m ys) (hl : ys.length = m) (hm0 : 0 < m) (hnm : n + m ≤ 1099511627)
    (hgd : o.guard = none) (ho : o.op = .call { callee := .builtin .append, args := #[s, y], argTypes := #[t, t] }) (hs : a.eval s = .slice q n n) (hy : a.eval y = .slice p m c)
    (h : ∀ p' cap w', Own e w' w.heap.size w'.heap.size (.slice p' (n + m) cap) (n + m) (xs ++ ys) → Below w.heap.size w w' → wpList P ops Q rest (a.put o.dst (.slice p' (n + m) cap)) w') :
    wpList P ops Q (o :: rest) a w := by
  obtain ⟨b, of, rfl, hc⟩ := hp hn0
  obtain ⟨b', of', rfl, hc'⟩ := hin hm0
  refine wpList_append_grows w hgd s y t ho e i (.int .u8 0) 1 1 ht hi hz hsize hby rfl (by decide) (some ⟨b, of, none⟩) n n (xs.map (Value.int .u8)) hs (fun x => by cases x) (by simp [hx]) (fun b2 hb2 => by cases hb2; exact news_of_in hx hc) ⟨b', of', none⟩ m c (ys.map (Value.int .u8)) hy (by simp [hl]) (news_of_in hl hc') (ints_oneCell _ _) (by omega) (by unfold maxLen; omega) (by omega) ?_
  intro v' w' h1 h2
  have h1' : w'.ownsRow w.heap.size e 1 v' (n + m) ((xs ++ ys).map (Value.int .u8)) := by simpa using h1
  have hv : ∃ p' cap, v' = .slice p' (n + m) cap := by
    rcases h1'.2 with ⟨_, r⟩ | ⟨g, cap, cur, r, _⟩
    · omega
    · exact ⟨_, _, r⟩
  obtain ⟨p', cap, rfl⟩ := hv
  exact h p' cap w' (.of h1') ((Below.refl _ _).grown h2 (Nat.le_refl _) fun k hk => by cases hk)

end Go.Proofs.YtdjdanpicbaieaaDoor

namespace Go.Proofs.YtdjdanpicbaieaaDoor
open Go.RowKit
set_option maxRecDepth 100000

theorem disableS (w : World) : (callFunc 88 #[]).run Tryd.prog w = .ok (.value (.tuple #[])) w := run_call_mark0 Tryd.func88 (by kernel_rfl) (by kernel_rfl) (by kernel_rfl) .disable (by kernel_rfl) w
theorem enableS (w : World) : (callFunc 90 #[]).run Tryd.prog w = .ok (.value (.tuple #[])) w := run_call_mark0 Tryd.func90 (by kernel_rfl) (by kernel_rfl) (by kernel_rfl) .enable (by kernel_rfl) w
theorem acquireS (a : Addr) (w : World) : (callFunc 91 #[.pointer (some a)]).run Tryd.prog w = .ok (.value (.tuple #[])) w := run_call_marked Tryd.func91 (by kernel_rfl) (by kernel_rfl) (by kernel_rfl) .acquire (by kernel_rfl) a w
theorem releaseMergeS (a : Addr) (w : World) : (callFunc 93 #[.pointer (some a)]).run Tryd.prog w = .ok (.value (.tuple #[])) w := run_call_marked Tryd.func93 (by kernel_rfl) (by kernel_rfl) (by kernel_rfl) .releaseMerge (by kernel_rfl) a w

/-- '(*sync/atomic.Bool).Store(true)' as a deferred call: the cell holds 1. -/
theorem store_deferred (a : Addr) (x : Value) (u : FrameMode) (w : World) (hc : w.cell? a = some x) (hz : w.frozen? a = false) :
    CallsD Tryd.prog 87 #[.pointer (some a), .bool true] u w fun e u' w' => u' = u ∧ (e = .returned (.tuple #[]) ∧ w' = w.drew.setCell a (.int .u32 1)) := by
  have hc' : w.drew.cell? a = some x := by go_simp
  have hz' : w.drew.frozen? a = false := by go_simp
  have hst := run_call_store (P := Tryd.prog) Tryd.func107 (by kernel_rfl) (by kernel_rfl) (by kernel_rfl) (by kernel_rfl) (k := .u32) (y := 1) hc' hz'
  go_enter_d Tryd.func87, Tryd.ntmps87
  go_wp2
  go_region_calls
  all_goals (go_end0; exact ⟨rfl, rfl⟩)

theorem unlock_deferred (a : Addr) (u : FrameMode) (w : World) (hc : w.cell? a = some (.int .i32 1)) (hz : w.frozen? a = false) :
    CallsD Tryd.prog 56 #[.pointer (some a)] u w fun e u' w' => u' = u ∧ (e = .returned (.tuple #[]) ∧ w' = w.setCell a (.int .i32 0)) := by
  have hd := disableS
  have he := enableS
  have hr := releaseMergeS
  have hadd := run_call_add (P := Tryd.prog) Tryd.func94 (by kernel_rfl) (by kernel_rfl) (by kernel_rfl) .i32 (by kernel_rfl) (y := -1) (s := 0) hc hz (by simp [go_sem]; rfl)
  have hcv := run_convert_to_unsafe (P := Tryd.prog) (src := 109) (dst := 113) Tryd.underlying109 Tryd.underlying113 (by kernel_rfl) hc
  go_enter_d Tryd.func56, Tryd.ntmps56
  go_wp2
  go_end0
  go_wp2
  go_end0
  exact ⟨rfl, rfl⟩

theorem lock_free (a : Addr) (w : World) (hc : w.cell? a = some (.int .i32 0)) (hz : w.frozen? a = false) :
    Calls Tryd.prog 55 #[.pointer (some a)] w fun e w' => e = .returned (.tuple #[]) ∧ w' = w.setCell a (.int .i32 1) := by
  have hd := disableS
  have he := enableS
  have ha := acquireS
  have hcas := run_call_cas_hit (P := Tryd.prog) Tryd.func89 (by kernel_rfl) (by kernel_rfl) (by kernel_rfl) .i32 (by kernel_rfl) (y := 1) hc hz
  have hc' : (w.setCell a (.int .i32 1)).cell? a = some (.int .i32 1) := World.cell?_setCell_same w a _ hc
  have hcv := run_convert_to_unsafe (P := Tryd.prog) (src := 109) (dst := 113) Tryd.underlying109 Tryd.underlying113 (by kernel_rfl) hc'
  go_enter Tryd.func55, Tryd.ntmps55
  go_wp2
  first | go_end0 | (simp only [Exit.inBlock, Exit.then]; refine bodyPost_ret (results_none rfl _ _ _) rfl ?_) | refine bodyPost_ret (results_none rfl _ _ _) rfl ?_
  go_wp2
  go_end0
  exact ⟨rfl, rfl⟩

/-- A ring of keys lies at block R: its seed, whether it was begun, the once's lock, the ring's lock, its map. -/
def RingAt (w : World) (R : Nat) (s : Value) (d m l : Int) (k : Value) : Prop := Cells w R #[s, .int .u32 d, .int .i32 m, .int .u32 0, .int .i32 l, .int .u32 0, k]
theorem RingAt.c0 {w : World} {R : Nat} {s : Value} {d m l : Int} {k : Value} (h : RingAt w R s d m l k) : w.cell? ⟨R, 0, none⟩ = some s := (h.2 0).1
theorem RingAt.c1 {w : World} {R : Nat} {s : Value} {d m l : Int} {k : Value} (h : RingAt w R s d m l k) : w.cell? ⟨R, 1, none⟩ = some (.int .u32 d) := (h.2 1).1
theorem RingAt.c2 {w : World} {R : Nat} {s : Value} {d m l : Int} {k : Value} (h : RingAt w R s d m l k) : w.cell? ⟨R, 2, none⟩ = some (.int .i32 m) := (h.2 2).1
theorem RingAt.c4 {w : World} {R : Nat} {s : Value} {d m l : Int} {k : Value} (h : RingAt w R s d m l k) : w.cell? ⟨R, 4, none⟩ = some (.int .i32 l) := (h.2 4).1
theorem RingAt.c6 {w : World} {R : Nat} {s : Value} {d m l : Int} {k : Value} (h : RingAt w R s d m l k) : w.cell? ⟨R, 6, none⟩ = some k := (h.2 6).1
theorem RingAt.z {w : World} {R : Nat} {s : Value} {d m l : Int} {k : Value} (h : RingAt w R s d m l k) (i : Nat) : w.frozen? ⟨R, i, none⟩ = false := (h.2 i).2
theorem RingAt.s1 {w : World} {R : Nat} {s : Value} {d m l : Int} {k : Value} (h : RingAt w R s d m l k) (x : Int) : RingAt (w.setCell ⟨R, 1, none⟩ (.int .u32 x)) R s x m l k := Cells.set h 1 (show 1 < 7 by omega) (.int .u32 x)
theorem RingAt.s2 {w : World} {R : Nat} {s : Value} {d m l : Int} {k : Value} (h : RingAt w R s d m l k) (x : Int) : RingAt (w.setCell ⟨R, 2, none⟩ (.int .i32 x)) R s d x l k := Cells.set h 2 (show 2 < 7 by omega) (.int .i32 x)
theorem RingAt.s4 {w : World} {R : Nat} {s : Value} {d m l : Int} {k : Value} (h : RingAt w R s d m l k) (x : Int) : RingAt (w.setCell ⟨R, 4, none⟩ (.int .i32 x)) R s d m x k := Cells.set h 4 (show 4 < 7 by omega) (.int .i32 x)
theorem RingAt.s6 {w : World} {R : Nat} {s : Value} {d m l : Int} {k : Value} (h : RingAt w R s d m l k) (x : Value) : RingAt (w.setCell ⟨R, 6, none⟩ x) R s d m l x := Cells.set h 6 (show 6 < 7 by omega) x
theorem RingAt.grown {w w' : World} {R : Nat} {s : Value} {d m l : Int} {k : Value} {r : Option Nat} (h : RingAt w R s d m l k) (hg : w.grownBy w' r) (hr : some R ≠ r) : RingAt w' R s d m l k := Cells.grown h hg hr
theorem set_grown (w : World) (R i : Nat) (v : Value) : w.grownBy (w.setCell ⟨R, i, none⟩ v) (some R) := ⟨rfl, rfl, rfl, by simp [World.setCell], fun k _ hk => Below.heap_setCell _ _ _ k (fun e => hk (by rw [e]))⟩
theorem drew_grown (w : World) (r : Option Nat) : w.grownBy w.drew r := ⟨rfl, rfl, rfl, Nat.le_refl _, fun _ _ _ => rfl⟩

theorem begin_ring (R : Nat) (s : Value) (d m l : Int) (k : Value) (w : World) (h : RingAt w R s d m l k) :
    Calls Tryd.prog 54 #[.pointer (some ⟨R, 0, none⟩)] w fun e w' => e = .returned (.tuple #[]) ∧ RingAt w' R s d m l (.map (some w.heap.size)) ∧ w'.heap[w.heap.size]? = some (.map #[] 0) ∧ w.grownBy w' (some R) := by
  have hmm := @run_makeMap Tryd.prog
  have hA : RingAt (w.alloc (.map #[] 0)) R s d m l k := h.grown (World.grownBy_alloc w _ none) (by simp)
  have h6 := hA.c6
  have z6 := hA.z 6
  have hfin := hA.s6 (.map (some w.heap.size))
  have hm : ((w.alloc (.map #[] 0)).setCell ⟨R, 6, none⟩ (.map (some w.heap.size))).heap[w.heap.size]? = some (.map #[] 0) := by
    rw [Below.heap_setCell _ _ _ _ (by have := h.1; show w.heap.size ≠ R; omega)]
    exact heap_made _ _
  have hg : w.grownBy ((w.alloc (.map #[] 0)).setCell ⟨R, 6, none⟩ (.map (some w.heap.size))) (some R) := (World.grownBy_alloc w _ _).trans (set_grown _ _ _ _)
  clear hA
  go_enter Tryd.func54, Tryd.ntmps54
  go_wp2
  go_end0
  exact ⟨rfl, hfin, hm, hg⟩

set_option maxHeartbeats 1600000 in
theorem slow_ring (R : Nat) (s : Value) (l : Int) (k : Value) (w : World) (h : RingAt w R s 0 0 l k) :
    Calls Tryd.prog 69 #[.pointer (some ⟨R, 1, none⟩), .func (.func 54) #[.pointer (some ⟨R, 0, none⟩)] #[]] w fun e w' => e = .returned (.tuple #[]) ∧ ∃ M, w.heap.size ≤ M ∧ RingAt w' R s 1 0 l (.map (some M)) ∧ w'.heap[M]? = some (.map #[] 0) ∧ w.grownBy w' (some R) := by
  have hnot : ∀ (x : Bool) (w : World), (Op.unary .not (.bool x)).run Tryd.prog w = .ok (.bool (!x)) w := fun _ _ => rfl
  have h1 := h.s2 1
  have g1 := set_grown w R 2 (.int .i32 1)
  have CL := lock_free ⟨R, 2, none⟩ w h.c2 (h.z 2)
  generalize w.setCell ⟨R, 2, none⟩ (.int .i32 1) = w1 at h1 g1 CL
  have hl := run_call_load (P := Tryd.prog) Tryd.func86 (by kernel_rfl) (by kernel_rfl) (by kernel_rfl) .u32 (by kernel_rfl) h1.c1
  have CB := begin_ring R s 0 1 l k w1 h1
  go_enter_defers Tryd.func69, Tryd.ntmps69
  go_wp2_with (first | (go_at_call 55; refine CL.mono ?_; rintro e w' ⟨rfl, hw⟩; rw [hw]; clear hw w') | (go_at_call 68; go_in) | (go_at_call 54; refine CB.mono ?_; rintro e w2 ⟨rfl, h2, hM, g2⟩))
  -- the door: two deferred calls, the last laid first
  refine leaves_cons (f := 87) (args := #[.pointer (some ⟨R, 1, none⟩), .bool true]) (by simp) (by simp [go_sem]) ?_
  refine (store_deferred ⟨R, 1, none⟩ (.int .u32 0) .returning _ h2.c1 (h2.z 1)).mono ?_
  rintro e u' w3' ⟨rfl, rfl, rfl⟩
  have h3 : RingAt (w2.drew.setCell ⟨R, 1, none⟩ (.int .u32 1)) R s 1 1 l (.map (some w1.heap.size)) := RingAt.s1 (h2.grown (drew_grown w2 none) (by simp)) 1
  have g3 : w2.grownBy (w2.drew.setCell ⟨R, 1, none⟩ (.int .u32 1)) (some R) := (drew_grown w2 _).trans (set_grown _ _ _ _)
  generalize w2.drew.setCell ⟨R, 1, none⟩ (.int .u32 1) = w3 at h3 g3 ⊢
  refine leaves_cons (f := 56) (args := #[.pointer (some ⟨R, 2, none⟩)]) (by simp [settle]) (by simp [go_sem]) ?_
  refine (unlock_deferred ⟨R, 2, none⟩ _ _ h3.c2 (h3.z 2)).mono ?_
  rintro e u' w4 ⟨rfl, rfl, rfl⟩
  have h4 := h3.s2 0
  have g4 := set_grown w3 R 2 (.int .i32 0)
  have hM4 : (w3.setCell ⟨R, 2, none⟩ (.int .i32 0)).heap[w1.heap.size]? = some (.map #[] 0) := by
    have hne : some w1.heap.size ≠ some R := fun x => by have := h1.1; cases x; omega
    have hlt : w1.heap.size < w2.heap.size := by
      rcases Nat.lt_or_ge w1.heap.size w2.heap.size with x | x
      · exact x
      · rw [Array.getElem?_eq_none x] at hM; cases hM
    rw [g4.block _ (Nat.lt_of_lt_of_le hlt g3.size) hne, g3.block _ hlt hne]
    exact hM
  simp [Leaves, settle, results, Tryd.results69]
  exact ⟨w1.heap.size, g1.size, h4, hM4, ((g1.trans g2).trans g3).trans g4⟩

set_option maxHeartbeats 1600000 in
theorem do_ring (R : Nat) (s : Value) (l : Int) (k : Value) (w : World) (h : RingAt w R s 0 0 l k) :
    Calls Tryd.prog 53 #[.pointer (some ⟨R, 1, none⟩), .func (.func 54) #[.pointer (some ⟨R, 0, none⟩)] #[]] w fun e w' => e = .returned (.tuple #[]) ∧ ∃ M, w.heap.size ≤ M ∧ RingAt w' R s 1 0 l (.map (some M)) ∧ w'.heap[M]? = some (.map #[] 0) ∧ w.grownBy w' (some R) := by
  have hnot : ∀ (x : Bool) (w : World), (Op.unary .not (.bool x)).run Tryd.prog w = .ok (.bool (!x)) w := fun _ _ => rfl
  have hl := run_call_load (P := Tryd.prog) Tryd.func86 (by kernel_rfl) (by kernel_rfl) (by kernel_rfl) .u32 (by kernel_rfl) h.c1
  have CS := slow_ring R s l k w h
  go_enter Tryd.func53, Tryd.ntmps53
  go_wp2_with (first | (go_at_call 69; refine CS.mono ?_; rintro e w' ⟨rfl, hw'⟩) | (go_at_call 68; go_in))
  go_end0
  exact ⟨rfl, hw'⟩

end Go.Proofs.YtdjdanpicbaieaaDoor
