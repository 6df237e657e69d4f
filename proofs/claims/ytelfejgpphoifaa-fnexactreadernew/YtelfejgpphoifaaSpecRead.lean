/-
  What the specification's Read answers, whatever it is given. Conditions: a reader and bytes that can be read.
-/
import Derived.Test.YtelfejgpphoifaaReaderEq
import Derived.Test.YtelfejgpphoifaaSame
namespace Go.Proofs.Ytelfejgpphoifaa
open Go.RowKit
set_option maxRecDepth 100000

/-- Two rows of bytes are the same text just where they are one. -/
theorem same_rows {xs ys : List Int} (hx : ∀ x ∈ xs, 0 ≤ x ∧ x < 256) (hy : ∀ y ∈ ys, 0 ≤ y ∧ y < 256) : ((strOfNums xs).toList == (strOfNums ys).toList) = decide (xs = ys) := by
  have h := text_eq hx hy
  have e : ∀ b : ByteArray, b.toList = b.data.toList := fun b => ByteArray.toList_eq b
  rw [e, e]
  by_cases k : xs = ys
  · rw [decide_eq_true k, beq_iff_eq]; exact h.2 k
  · rw [decide_eq_false k, beq_eq_false_iff_ne]; exact fun z => k (h.1 z)
/-- b is among them. -/
def amongB (rs : List RwA) (b : List Int) : Bool := decide (b ∈ rs.map RwA.xs)
theorem among_yes {rs : List RwA} {k : Nat} {x : RwA} {b : List Int} (hk : k < rs.length) (hx : rs.getD k default = x) (h : x.xs = b) : amongB rs b = true := by
  refine decide_eq_true (List.mem_map.2 ⟨x, ?_, h⟩)
  rw [← hx]; exact getD_memR hk
theorem among_step {rs : List RwA} {k : Nat} {x : RwA} {b : List Int} (hk : k < rs.length) (hx : rs.getD k default = x) (h : x.xs ≠ b) (hp : b ∉ (rs.take k).map RwA.xs) : b ∉ (rs.take (k + 1)).map RwA.xs := by
  rw [take_getDR hk, List.map_append, hx]
  intro m
  rcases List.mem_append.1 m with m | m
  · exact hp m
  · simp at m; exact h m.symm
theorem among_no {rs : List RwA} {b : List Int} (hp : b ∉ (rs.take rs.length).map RwA.xs) : amongB rs b = false := by
  rw [List.take_length] at hp
  exact decide_eq_false hp

set_option maxHeartbeats 4000000 in
theorem specRead_any (x : RdA) (b : RwA) (w : World) (okx : x.Ok w) (okb : b.Ok w) :
    Calls Try.prog 18 #[.agg x.cells, .slice b.p b.n b.c] w fun z w' => z = .returned (.bool (amongB x.seen b.xs)) ∧ Below w.heap.size w w' := by
  obtain ⟨⟨sp, sn, sc, sx⟩, e, p, n, c, seen, q, m, d, got⟩ := x
  obtain ⟨bp, bn, bc, bx⟩ := b
  have E1 : RdA.cells ⟨⟨sp, sn, sc, sx⟩, e, p, n, c, seen, q, m, d, got⟩ = #[.slice sp sn sc, .int .i64 e, .slice p n c, .slice q m d] := rfl
  rw [E1]
  dsimp only
  obtain ⟨R, hR⟩ : ∃ R : Bool, R = amongB seen bx := ⟨_, rfl⟩
  rw [← hR]
  replace hR : Hid (R = amongB seen bx) := hR
  have rows := okx.seen
  dsimp only at rows
  have hn := rows.hn
  have hl := rows.len
  clear okx E1
  go_enter Try.func18, Try.ntmps18
  go_wp2_with (fail)
  go_loopw [5] (fun i wr => ∃ k : Nat, k ≤ n ∧ i = .int .i64 k ∧ Hid (bx ∉ (seen.take k).map RwA.xs) ∧ Cells wr w.heap.size #[.slice sp sn sc, .int .i64 e, .slice p n c, .slice q m d] ∧ Below w.heap.size w wr) (fun i _ => n - (intOf i).toNat)
  case atStart => exact ⟨0, Nat.zero_le _, rfl, by simp [Hid], Cells.made w _ _, made_below _ _ (Below.refl _ _)⟩
  case round =>
    obtain ⟨k, hk, rfl, hno, hC, hbel⟩ := hrel
    have c2 : wr.cell? ⟨w.heap.size, 2, none⟩ = some (.slice p n c) := (hC.2 2).1
    by_cases hlt : k < n
    · obtain ⟨b0, o, x, rfl, l0, hx, lx⟩ := (rows.on hbel).at hlt
      have ly := okb.on hbel
      have hyes : Hid (x.xs = bx → R = true) := fun h => by rw [hR.out]; exact among_yes (by omega) hx h
      have hst : Hid (x.xs ≠ bx → bx ∉ (seen.take (k + 1)).map RwA.xs) := fun h => among_step (by omega) hx h hno.out
      obtain ⟨xp, xn, xc, xs⟩ := x
      dsimp only at l0 hyes hst
      have C := specSame_any xp bp xn bn xc bc xs bx wr lx.len ly.len lx.bytes ly.bytes
      rw [same_rows lx.byte ly.byte] at C
      clear hx lx ly hno rows okb
      by_cases hxy : xs = bx
      · rw [decide_eq_true hxy] at C
        have hr := hyes.out hxy
        subst hr
        clear hyes hst hxy hR
        go_wp2_with (fail)
        refine C.mono ?_
        rintro z w2 ⟨rfl, b2⟩
        have hbel2 := below_on hbel b2
        clear b2 hbel C
        go_wp2_with (fail)
        go_ret
        exact ⟨rfl, hbel2⟩
      · rw [decide_eq_false hxy] at C
        have hs2 := hst.out hxy
        replace hs2 : Hid (bx ∉ (seen.take (k + 1)).map RwA.xs) := hs2
        clear hyes hst hxy
        go_wp2_with (fail)
        refine C.mono ?_
        rintro z w2 ⟨rfl, b2⟩
        have hbel2 := below_on hbel b2
        have hC2 := hC.on b2
        clear b2 hbel C hC
        go_wp2_with (fail)
        go_roundw
        case rel => exact ⟨k + 1, by omega, by go_num, hs2, hC2, hbel2⟩
        case measure => simp [intOf]; omega
    · have hkn : k = n := by omega
      subst hkn
      have hr : R = false := by rw [hR.out]; exact among_no (by rw [hl]; exact hno.out)
      subst hr
      clear hR hno rows okb
      go_wp2_with (fail)
      go_ret
      exact ⟨rfl, hbel⟩

end Go.Proofs.Ytelfejgpphoifaa
