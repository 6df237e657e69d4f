/-
  (*shelf).leave and (*shelf).take; what is told of a shelf whose rows are only read. Conditions: a shelf of no more than a law hands over.
-/
import Derived.Test.YtggbmpgpopenoaaTold
import Derived.Test.YtggbmpgpopenoaaSpecTake
namespace Go.Proofs.Ytggbmpgpopenoaa
open Go.RowKit
set_option maxRecDepth 100000

/-- L without its first one of a route. -/
def rmF (s : ByteArray) : List PIt → List PIt
  | [] => []
  | z :: r => if z.x.s = s then r else z :: rmF s r
theorem rmF_same (s : ByteArray) : ∀ L : List PIt, ofR s (rmF s L) = (ofR s L).tail
  | [] => rfl
  | z :: r => by
    by_cases e : z.x.s = s
    · simp [rmF, ofR, e]
    · have ih := rmF_same s r
      simp only [ofR] at ih
      simp [rmF, ofR, e, ih]
theorem rmF_other (s y : ByteArray) (h : y ≠ s) : ∀ L : List PIt, ofR y (rmF s L) = ofR y L
  | [] => rfl
  | z :: r => by
    by_cases e : z.x.s = s
    · simp [rmF, ofR, e, Ne.symm h]
    · have ih := rmF_other s y h r
      simp only [ofR] at ih
      simp [rmF, ofR, e, List.filter_cons, ih]
theorem rmF_sub (s : ByteArray) : ∀ L : List PIt, (rmF s L).Sublist L
  | [] => List.Sublist.slnil
  | z :: r => by
    by_cases e : z.x.s = s
    · simp [rmF, e]
    · simp [rmF, e, rmF_sub s r]
theorem rmF_take (s : ByteArray) : ∀ L : List PIt, ofR s L ≠ [] → takeF s (L.map PIt.x) = some (((ofR s L).getD 0 default).x, (rmF s L).map PIt.x)
  | [], h => absurd rfl h
  | z :: r, h => by
    by_cases e : z.x.s = s
    · simp [rmF, ofR, takeF, e]
    · have h' : ofR s r ≠ [] := by simpa [ofR, e] using h
      have ih := rmF_take s r h'
      simp only [ofR] at ih
      simp [rmF, ofR, takeF, e, ih]
theorem rmF_none (s : ByteArray) (L : List PIt) (h : ofR s L = []) : takeF s (L.map PIt.x) = none := by
  refine takeF_none fun x hx => ?_
  obtain ⟨z, hz, rfl⟩ := List.mem_map.1 hx
  intro e
  have : z ∈ ofR s L := List.mem_filter.2 ⟨hz, by simp [e]⟩
  rw [h] at this
  simp at this

set_option maxHeartbeats 2000000 in
theorem leave_any (w : World) (S B n : Nat) (m : ByteArray → Option Value) (s : ByteArray) (q : Option Addr) (k c : Nat) (hS : w.cell? ⟨S, 0, none⟩ = some (.map (some B))) (hm : MapW w B n m) (hs : s.size ≤ 1048576) (hn : n ≤ 16777216) (hk : k ≤ 1048577) :
    Calls Try.prog 75 #[.pointer (some ⟨S, 0, none⟩), .string s, .slice q k c] w fun e w' => e = .returned (.tuple #[]) ∧ MapW w' B (n + 1) (fun y => if y = s then (if k = 0 then none else some (.slice q k c)) else m y) ∧ w.mapTurned w' B := by
  by_cases h0 : k = 0
  · subst h0
    obtain ⟨w', hrun, hM, ht⟩ := hm.drop s hs 0
    have hM' : MapW w' B (n + 1) (fun y => if y = s then (if (0 : Nat) = 0 then none else some (.slice q 0 c)) else m y) := by
      obtain ⟨D, h1, h2⟩ := hM
      exact ⟨D, h1.mono (by omega), h2⟩
    clear hM hm
    go_enter Try.func75, Try.ntmps75
    go_wp2_with (fail)
    first | go_end0 | (simp only [Exit.inBlock, Exit.then]; refine bodyPost_ret (results_none rfl _ _ _) rfl ?_) | refine bodyPost_ret (results_none rfl _ _ _) rfl ?_
    exact ⟨rfl, hM', ht⟩
  · obtain ⟨w', hrun, hM, ht⟩ := hm.store s hs hn (.slice q k c)
    have h1 : ((k : Int) == 0) = false := by simp; omega
    simp only [if_neg h0]
    clear hm h0
    go_enter Try.func75, Try.ntmps75
    go_wp2_with (fail)
    first | go_end0 | (simp only [Exit.inBlock, Exit.then]; refine bodyPost_ret (results_none rfl _ _ _) rfl ?_) | refine bodyPost_ret (results_none rfl _ _ _) rfl ?_
    exact ⟨rfl, hM, ht⟩

theorem slice_rowB (b o m cc : Nat) (h : 1 ≤ m) (hc : m ≤ cc) : ∃ q, Hid (1 < m → q = some ⟨b, o + 5, none⟩) ∧ ∀ W, (Instr.slice 77 (.slice (some ⟨b, o, none⟩) m cc) (some (.int .i64 1)) none none).run Try.prog W = .ok (.slice q (m - 1) (cc - 1)) W := by
  have ht' : Try.prog.underlying 77 = some (.slice (Try.prog.elem 77)) := by simp [Program.elem, Try.underlying77]
  have he : Try.prog.elem 77 = 96 := by simp [Program.elem, Try.underlying77]
  refine ⟨if cc = 1 then some ⟨b, o, none⟩ else some ⟨b, o + 5, none⟩, fun h64 => if_neg (by omega), fun W => ?_⟩
  rw [run_slice_l W 77 _ _ _ ht' .i64 1 (by omega) (by omega), he]
  by_cases e : cc = 1
  · simp [sliced, e]
  · simp [sliced, Addr.add, e]

/-- A store into another variable turns nothing of a shelf. -/
theorem rows_keptLow {w w' : World} {B n R : Nat} {m : ByteArray → Option Value} {L : List PIt} (h : Rows13W w B n m L) (hg : w.grownBy w' (some R)) (hB : B ≠ R) (hrow : ∀ s, ofR s L ≠ [] → ∀ b o c, m s = some (.slice (some ⟨b, o, none⟩) (ofR s L).length c) → b ≠ R) : Rows13W w' B n m L := by
  refine ⟨h.map.kept hg (fun k => hB (by cases k; rfl)), h.noRow, fun s hs => ?_⟩
  obtain ⟨b, o, c, hv, hP⟩ := h.aRow s hs
  refine ⟨b, o, c, hv, hP.1, hP.2.1, fun hk => ?_⟩
  obtain ⟨b', o', e, hc⟩ := hP.2.2 hk
  refine ⟨b', o', e, fun i j v hi hvv => ?_⟩
  have ec := hc i j v hi hvv
  simp only [Option.some.injEq, Addr.mk.injEq, and_true] at e
  obtain ⟨rfl, rfl⟩ := e
  rw [World.cell?_of_block (w := w) (hg.block b (World.block_lt_of_cell? w _ ec) (fun k => hrow s hs b o c hv (by cases k; rfl)))]
  exact ec

set_option maxHeartbeats 4000000 in
theorem take_any (w : World) (lo S : Nat) (L : List PIt) (nx : Int) (N : Nat) (s : ByteArray) (hs : s.size ≤ 1048576) (hN : N ≤ 1048577) (hL : L.length ≤ 1048577) (h : Shelf w lo S L nx N) :
    Calls Try.prog 52 #[.pointer (some ⟨S, 0, none⟩), .string s] w fun e w' =>
      (ofR s L = [] ∧ e = .returned (.tuple #[.agg #[.string { data := #[] }, .int .i64 0, .int .i64 0, .slice none 0 0], .bool false]) ∧ Below w.heap.size w w') ∨
      (ofR s L ≠ [] ∧ ∃ (x : ItA) (B n : Nat) (m : ByteArray → Option Value), x = ((ofR s L).getD 0 default).x ∧ e = .returned (.tuple #[.agg #[.string x.s, .int .i64 x.t, .int .i64 x.d, .slice x.p x.n x.c], .bool true]) ∧ w'.cell? ⟨S, 0, none⟩ = some (.map (some B)) ∧ Rows13W w' B n m (rmF s L) ∧ Below lo w w') := by
  obtain ⟨B, nn, m, hC, hlo, hnN, hR⟩ := h
  have hSw := hC.1
  have hSB : B ≠ S := cells_not_map hR.map hC (by simp)
  obtain ⟨w1, hw1⟩ : ∃ w1, w1 = w.alloc (.cells #[.string { data := #[] }, .int .i64 0, .int .i64 0, .slice none 0 0] 26) := ⟨_, rfl⟩
  have b1 : Below w.heap.size w w1 := by rw [hw1]; exact made_below _ _ (Below.refl _ _)
  have C1 : Cells w1 w.heap.size #[.string { data := #[] }, .int .i64 0, .int .i64 0, .slice none 0 0] := by rw [hw1]; exact Cells.made _ _ _
  have z1 : w.heap.size < w1.heap.size := C1.1
  have hR1 := hR.on b1
  have hC1 := hC.on b1
  have l0 : w1.cell? ⟨S, 0, none⟩ = some (.map (some B)) := (hC1.2 0).1
  have hlk := hR1.map.look_ok s hs
  replace hw1 : Hid (w.alloc (.cells #[.string { data := #[] }, .int .i64 0, .int .i64 0, .slice none 0 0] 26) = w1) := hw1.symm
  have hRl : lo ≤ w.heap.size := by omega
  have hBR : B < w.heap.size := hR.map.lt
  by_cases e0 : ofR s L = []
  · rw [hR.noRow s e0] at hlk
    obtain ⟨w2, hw2⟩ : ∃ w2, w2 = w1.alloc (.cells #[.string { data := #[] }, .int .i64 0, .int .i64 0, .slice none 0 0] 26) := ⟨_, rfl⟩
    have b2 : Below w1.heap.size w1 w2 := by rw [hw2]; exact made_below _ _ (Below.refl _ _)
    have C2 : Cells w2 w1.heap.size #[.string { data := #[] }, .int .i64 0, .int .i64 0, .slice none 0 0] := by rw [hw2]; exact Cells.made _ _ _
    have v0 : w2.cell? ⟨w1.heap.size, 0, none⟩ = some (.string { data := #[] }) := (C2.2 0).1
    have v1 : w2.cell? ⟨w1.heap.size, 1, none⟩ = some (.int .i64 0) := (C2.2 1).1
    have v2 : w2.cell? ⟨w1.heap.size, 2, none⟩ = some (.int .i64 0) := (C2.2 2).1
    have v3 : w2.cell? ⟨w1.heap.size, 3, none⟩ = some (.slice none 0 0) := (C2.2 3).1
    replace hw2 : Hid (w1.alloc (.cells #[.string { data := #[] }, .int .i64 0, .int .i64 0, .slice none 0 0] 26) = w2) := hw2.symm
    have k2 := below_on b1 b2
    obtain ⟨X, hX, ⟨u0, y0⟩, f0, ⟨u1, y1⟩, f1, ⟨u2, y2⟩, f2, ⟨u3, y3⟩, f3, q0, q1, q2', q3, hsz, hgX⟩ := itemStore (C1.on b2) rfl { data := #[] } 0 0 none 0 0
    have kX : Below w.heap.size w X := k2.grown hgX.out k2.size (fun j hj => by cases hj; omega)
    clear hgX hR hR1 hC hC1 b1 b2 C1 C2 k2 z1
    go_enter Try.func52, Try.ntmps52
    go_wp2_with (first | rw [hw1.out] | rw [hw2.out] | rw [hX.out])
    (try simp only [Exit.inBlock, Exit.then])
    refine bodyPost_ret (v := .tuple #[.agg #[.string { data := #[] }, .int .i64 0, .int .i64 0, .slice none 0 0], .bool false]) ?_ rfl (.inl ⟨e0, rfl, kX⟩)
    simp only [results, Try.f52]
    go_simp
  · obtain ⟨b, o, cc, hms, hP⟩ := hR.weak.aRow s e0
    have hP1 := plIn_on hP b1
    rw [hms] at hlk
    obtain ⟨z, hz⟩ : ∃ z, (ofR s L).getD 0 default = z := ⟨_, rfl⟩
    have hpos : 0 < (ofR s L).length := List.length_pos_iff.2 e0
    have hlen := ofR_len s L
    obtain ⟨b', o', hpe, hcells⟩ := hP1.2.2 hpos
    simp only [Option.some.injEq, Addr.mk.injEq, and_true] at hpe
    obtain ⟨rfl, rfl⟩ := hpe
    obtain ⟨q, hq, hsl⟩ := slice_rowB b o (ofR s L).length cc hpos hP.1
    obtain ⟨rl, hrl⟩ : ∃ rl, rl = (ofR s L).length := ⟨_, rfl⟩
    have CL := leave_any w1 S B nn m s q (rl - 1) (cc - 1) l0 hR1.map hs (by omega) (by omega)
    have hbB : b ≠ B := fun e => by
      obtain ⟨es, c, hb⟩ := hR1.map.block
      have := hcells 0 0 (.int .i64 ((ofR s L).getD 0 default).k) hpos rfl
      rw [e] at this
      simp [World.cell?, hb] at this
    have hafter : Hid (∀ w2, MapW w2 B (nn + 1) (fun y => if y = s then (if rl - 1 = 0 then none else some (.slice q (rl - 1) (cc - 1))) else m y) → w1.mapTurned w2 B → Rows13W w2 B (nn + 1) (fun y => if y = s then (if rl - 1 = 0 then none else some (.slice q (rl - 1) (cc - 1))) else m y) (rmF s L)) := fun w2 hM2 ht2 => by
      have hg := ht2.grown
      have keep : ∀ {p : Option Addr} {k c' : Nat} {l : List PIt}, PlIn w1 p k c' l → PlIn w2 p k c' l := fun {p k c' l} hh => by
        refine ⟨hh.1, hh.2.1, fun hk => ?_⟩
        obtain ⟨b2, o2, rfl, hc2⟩ := hh.2.2 hk
        refine ⟨b2, o2, rfl, fun i j v hi hv => ?_⟩
        have e := hc2 i j v hi hv
        have hne : b2 ≠ B := fun e2 => by
          obtain ⟨es, c, hb⟩ := hR1.map.block
          rw [e2] at e
          simp [World.cell?, hb] at e
        rw [World.cell?_of_block (w := w1) (hg.block b2 (World.block_lt_of_cell? w1 _ e) (fun k => hne (by cases k; rfl)))]
        exact e
      have htail : (ofR s L).tail.length = rl - 1 := by rw [List.length_tail, hrl]
      refine ⟨hM2, fun y hy => ?_, fun y hy => ?_⟩
      · by_cases ey : y = s
        · subst ey
          rw [rmF_same] at hy
          have : rl - 1 = 0 := by rw [← htail, hy]; rfl
          simp [this]
        · rw [rmF_other s y ey] at hy
          simp only [if_neg ey]
          exact hR.noRow y hy
      · by_cases ey : y = s
        · subst ey
          rw [rmF_same] at hy ⊢
          have hl1 : rl - 1 ≠ 0 := fun k => hy (List.length_eq_zero_iff.1 (htail.trans k))
          have hqe := hq.out (by omega)
          subst hqe
          refine ⟨b, o + 5, cc - 1, by simp only [if_true, if_neg hl1, htail], ?_⟩
          rw [htail]
          refine keep ⟨by have := hP.1; omega, by have := hP.2.1; omega, fun _ => ⟨b, o + 5, rfl, fun i j v hi hv => ?_⟩⟩
          have := hcells (i + 1) j v (by omega) (by rw [← hv]; congr 2; simp [List.getD_eq_getElem?_getD])
          rw [show o + 5 + i * 5 + j = o + (i + 1) * 5 + j by omega]
          exact this
        · rw [rmF_other s y ey] at hy ⊢
          obtain ⟨b2, o2, c2, h1, h2⟩ := hR.weak.aRow y hy
          exact ⟨b2, o2, c2, by simp only [if_neg ey]; exact h1, keep (plIn_on h2 b1)⟩
    have hblk : Hid (∀ y, ofR y (rmF s L) ≠ [] → ∀ b2 o2 c2, (if y = s then (if rl - 1 = 0 then none else some (.slice q (rl - 1) (cc - 1))) else m y) = some (.slice (some ⟨b2, o2, none⟩) (ofR y (rmF s L)).length c2) → b2 < w.heap.size) := fun y hy b2 o2 c2 hv => by
      by_cases ey : y = s
      · subst ey
        simp only [if_true] at hv
        by_cases h0 : rl - 1 = 0
        · rw [if_pos h0] at hv; cases hv
        · rw [if_neg h0, hq.out (by omega)] at hv
          simp only [Option.some.injEq, Value.slice.injEq, Addr.mk.injEq] at hv
          obtain ⟨b3, o3, e3, hc3⟩ := hP.2.2 hpos
          simp only [Option.some.injEq, Addr.mk.injEq] at e3
          have := World.block_lt_of_cell? w _ (hc3 0 0 _ hpos rfl)
          rw [← hv.1.1, e3.1]
          exact this
      · rw [rmF_other s y ey] at hy hv
        rw [if_neg ey] at hv
        obtain ⟨b3, o3, c3, h1, h2⟩ := hR.weak.aRow y hy
        rw [hv] at h1
        simp only [Option.some.injEq, Value.slice.injEq, Addr.mk.injEq] at h1
        have hp3 : 0 < (ofR y L).length := List.length_pos_iff.2 hy
        obtain ⟨b4, o4, e4, hc4⟩ := h2.2.2 hp3
        simp only [Option.some.injEq, Addr.mk.injEq] at e4
        have := World.block_lt_of_cell? w _ (hc4 0 0 _ hp3 rfl)
        rw [h1.1.1, e4.1]
        exact this
    obtain ⟨c0, c1, c2, c3, c4⟩ := PlIn.at hcells hpos hz
    simp only [Nat.zero_mul, Nat.add_zero] at c0 c1 c2 c3 c4
    have hkeep : Hid (∀ w2, w1.mapTurned w2 B → w2.cell? ⟨b, o + 1, none⟩ = some (.string z.x.s) ∧ w2.cell? ⟨b, o + 2, none⟩ = some (.int .i64 z.x.t) ∧ w2.cell? ⟨b, o + 3, none⟩ = some (.int .i64 z.x.d) ∧ w2.cell? ⟨b, o + 4, none⟩ = some (.slice z.x.p z.x.n z.x.c)) := fun w2 ht2 => by
      have e : ∀ i, w2.cell? ⟨b, i, none⟩ = w1.cell? ⟨b, i, none⟩ := fun i => World.cell?_of_block (w := w1) (ht2.grown.block b (World.block_lt_of_cell? w1 _ c0) (fun k => hbB (by cases k; rfl)))
      exact ⟨(e _).trans c1, (e _).trans c2, (e _).trans c3, (e _).trans c4⟩
    rw [← hrl] at hsl hlk
    have hsl1 := hsl w1
    have hrp : (0 : Int) < (rl : Int) := by omega
    have hrp' : 0 < rl := by omega
    replace hrl : Hid (rl = (ofR s L).length) := hrl
    have hx : Hid (z.x = ((ofR s L).getD 0 default).x) := by rw [Hid, hz]
    clear hP hP1 hcells hq hms hz c0 c1 c2 c3 c4 hpos hlen hsl
    go_enter Try.func52, Try.ntmps52
    go_wp2_with (rw [hw1.out])
    refine CL.mono ?_
    rintro e w2 ⟨rfl, hM2, ht2⟩
    obtain ⟨m1, m2, m3, m4⟩ := hkeep.out w2 ht2
    have hW2 := hafter.out w2 hM2 ht2
    have C2 := C1.grown ht2.grown (fun k => by simp only [Option.some.injEq] at k; omega)
    have hb2 : Below lo w w2 := (b1.mono hRl).grown ht2.grown (by omega) (fun j hj => by cases hj; exact hR.loB)
    have l2 : w2.cell? ⟨S, 0, none⟩ = some (.map (some B)) := by
      rw [World.cell?_of_block (w := w1) (ht2.grown.block S (by omega) (fun k => hSB (by cases k; rfl)))]
      exact l0
    obtain ⟨X, hX, ⟨u0, y0⟩, f0, ⟨u1, y1⟩, f1, ⟨u2, y2⟩, f2, ⟨u3, y3⟩, f3, q0, q1, q2', q3, hsz, hgX⟩ := itemStore C2 rfl z.x.s z.x.t z.x.d z.x.p z.x.n z.x.c
    have hWX : Rows13W X B (nn + 1) _ (rmF s L) := rows_keptLow hW2 hgX.out (fun k => by omega) (fun y hy b2 o2 c2 hv => by have := hblk.out y hy b2 o2 c2 hv; omega)
    have kX : Below lo w X := hb2.grown hgX.out (Nat.le_trans hRl hb2.size) (fun j hj => by cases hj; exact hRl)
    have lX : X.cell? ⟨S, 0, none⟩ = some (.map (some B)) := by
      rw [World.cell?_of_block (w := w2) (hgX.out.block S (World.block_lt_of_cell? w2 _ l2) (fun k => by simp only [Option.some.injEq] at k; omega))]
      exact l2
    clear hgX hW2 hM2 ht2 C2 C1 hR hR1 hC hC1 CL hafter hkeep
    go_wp2_with (first | rw [hX.out])
    (try simp only [Exit.inBlock, Exit.then])
    refine bodyPost_ret (v := .tuple #[.agg #[.string z.x.s, .int .i64 z.x.t, .int .i64 z.x.d, .slice z.x.p z.x.n z.x.c], .bool true]) ?_ rfl (.inr ⟨e0, z.x, B, nn + 1, _, hx.out, rfl, lX, hWX, kX⟩)
    simp only [results, Try.f52]
    go_simp

end Go.Proofs.Ytggbmpgpopenoaa
