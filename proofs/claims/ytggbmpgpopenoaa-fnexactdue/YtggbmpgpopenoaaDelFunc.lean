/-
  slices.IndexFunc and slices.DeleteFunc with a shelf's test. Conditions: a row of one's own, a test that turns nothing, whatever it asks.
-/
import Derived.Test.YtggbmpgpopenoaaDel
namespace Go.Proofs.Ytggbmpgpopenoaa
open Go.RowKit
set_option maxRecDepth 100000

theorem below_grown {w w' : World} (b : Below w.heap.size w w') (r : Option Nat) : w.grownBy w' r := ⟨b.os, b.tape, b.output, b.size, fun k hk _ => b.block k hk⟩
/-- What stays. -/
def keepP (P : ItA → Bool) (l : List PIt) : List PIt := l.filter (fun z => !P z.x)
theorem keepP_step (P : ItA → Bool) (l : List PIt) (k : Nat) (h : k < l.length) : keepP P (l.take (k + 1)) = keepP P (l.take k) ++ keepP P [l.getD k default] := by
  rw [take_getD h]
  simp [keepP]

set_option maxHeartbeats 4000000 in
theorem indexFuncD_any (P : ItA → Bool) (K : World → Prop) (hK : ∀ W W', K W → Below W.heap.size W W' → K W') (GB : Nat)
    (hdel : ∀ (z : PIt) (W : World), K W → Calls Try.prog 74 #[.agg #[.int .i64 z.k, .string z.x.s, .int .i64 z.x.t, .int .i64 z.x.d, .slice z.x.p z.x.n z.x.c], .pointer (some ⟨GB, 0, none⟩)] W fun e w' => e = .returned (.bool (P z.x)) ∧ Below W.heap.size W w')
    (p : Option Addr) (n c : Nat) (l : List PIt) (w : World) (hn : n ≤ 1048577) (hl : l.length = n) (h : PlIn w p n c l) (kw : K w) :
    Calls Try.prog 85 #[.slice p n c, .func (.func 74) #[] #[.pointer (some ⟨GB, 0, none⟩)]] w fun e w' => ∃ r : Int, e = .returned (.int .i64 r) ∧ Hid ((r = -1 ∧ keepP P l = l) ∨ ∃ k : Nat, r = k ∧ k < n ∧ keepP P (l.take (k + 1)) = l.take k) ∧ Below w.heap.size w w' := by
  go_enter Try.func85, Try.ntmps85
  go_wp2_with (fail)
  go_loopw [8] (fun i wr => ∃ k : Nat, k ≤ n ∧ i = .int .i64 k ∧ Hid (keepP P (l.take k) = l.take k) ∧ Below w.heap.size w wr) (fun i _ => n - (intOf i).toNat)
  case atStart => exact ⟨0, Nat.zero_le _, rfl, rfl, Below.refl _ _⟩
  case round =>
    obtain ⟨k, hk, rfl, hno, hbel⟩ := hrel
    by_cases hlt : k < n
    · obtain ⟨b, o, rfl, hc⟩ := (plIn_on h hbel).2.2 (by omega)
      obtain ⟨z, hz⟩ : ∃ z, l.getD k default = z := ⟨_, rfl⟩
      obtain ⟨l0, l1, l2, l3, l4⟩ := PlIn.at hc hlt hz
      have hst := keepP_step P l k (by omega)
      rw [hno.out, hz] at hst
      have hnext : Hid (P z.x = false → keepP P (l.take (k + 1)) = l.take (k + 1)) := fun e => by
        rw [hst, take_getD (by omega), hz]; simp [keepP, e]
      have hhere : Hid (P z.x = true → keepP P (l.take (k + 1)) = l.take k) := fun e => by
        rw [hst]; simp [keepP, e]
      have C := hdel z wr (hK _ _ kw hbel)
      clear hc h hz hno hst hdel
      cases e : P z.x
      · replace hnext : Hid _ := hnext.out e
        rw [e] at C
        clear hhere e
        go_wp2_with (fail)
        refine C.mono ?_
        rintro y w2 ⟨rfl, b2⟩
        have hbel2 := below_on hbel b2
        clear hbel b2 C
        go_wp2_with (fail)
        go_roundw
        case rel => exact ⟨k + 1, by omega, by go_num, hnext, hbel2⟩
        case measure => simp [intOf]; omega
      · replace hhere : Hid _ := hhere.out e
        rw [e] at C
        clear hnext e
        go_wp2_with (fail)
        refine C.mono ?_
        rintro y w2 ⟨rfl, b2⟩
        have hbel2 := below_on hbel b2
        clear hbel b2 C
        go_wp2_with (fail)
        go_ret
        exact ⟨k, rfl, .inr ⟨k, rfl, hlt, hhere.out⟩, hbel2⟩
    · have hkn : k = n := by omega
      subst hkn
      have hno' := hno.out
      rw [← hl, List.take_length] at hno'
      replace hno' : Hid _ := hno'
      clear hno
      go_wp2_with (fail)
      go_ret
      exact ⟨-1, rfl, .inl ⟨rfl, hno'.out⟩, hbel⟩

set_option maxHeartbeats 8000000 in
theorem deleteFunc_some (P : ItA → Bool) (K : World → Prop) (hK : ∀ W W', K W → Below W.heap.size W W' → K W') (GB : Nat)
    (hdel : ∀ (z : PIt) (W : World), K W → Calls Try.prog 74 #[.agg #[.int .i64 z.k, .string z.x.s, .int .i64 z.x.t, .int .i64 z.x.d, .slice z.x.p z.x.n z.x.c], .pointer (some ⟨GB, 0, none⟩)] W fun e w' => e = .returned (.bool (P z.x)) ∧ Below W.heap.size W w')
    (lo g n c : Nat) (l : List PIt) (w : World) (hn : n ≤ 1048577) (hl : l.length = n) (h : w.ownsRow lo 96 5 (.slice (some ⟨g, 0, none⟩) n c) n (flatP l)) (hG : ∀ W W', K W → W.grownBy W' (some g) → K W') (kw : K w) :
    Calls Try.prog 73 #[.slice (some ⟨g, 0, none⟩) n c, .func (.func 74) #[] #[.pointer (some ⟨GB, 0, none⟩)]] w fun e w' => e = .returned (.slice (some ⟨g, 0, none⟩) (keepP P l).length c) ∧ w'.ownsRow lo 96 5 (.slice (some ⟨g, 0, none⟩) (keepP P l).length c) (keepP P l).length (flatP (keepP P l)) ∧ w.grownBy w' (some g) := by
  have hP := plIn_own h hl
  have hnc := hP.1
  have CI := indexFuncD_any P K hK GB hdel (some ⟨g, 0, none⟩) n c l w hn hl hP kw
  go_enter Try.func73, Try.ntmps73
  go_wp2_with (fail)
  refine CI.mono ?_
  rintro e w1 ⟨r, rfl, hr, b1⟩
  have h1 := owns_below h b1
  have k1 := hK _ _ kw b1
  have g1 := below_grown b1 (some g)
  clear CI h b1 kw hP
  rcases hr.out with ⟨rfl, hall⟩ | ⟨r0, rfl, hr0, hfirst⟩
  · replace hall : Hid (keepP P l = l) := hall
    clear hr hdel
    go_wp2_with (fail)
    go_ret
    rw [hall.out, hl]
    exact ⟨rfl, h1, g1⟩
  · have hne : ((r0 : Int) == -1) = false := by first | (simp; done) | (simp; omega)
    clear hr
    go_wp2_with (fail)
    go_loopw [5, 6] (fun a b wr => ∃ (i j : Nat) (l' : List PIt), a = .int .i64 i ∧ b = .int .i64 j ∧ i < j ∧ j ≤ n ∧ l'.length = n ∧ Hid (l'.take i = keepP P (l.take j)) ∧ Hid (l'.drop j = l.drop j) ∧ wr.ownsRow lo 96 5 (.slice (some ⟨g, 0, none⟩) n c) n (flatP l') ∧ K wr ∧ w.grownBy wr (some g)) (fun _ b _ => n - (intOf b).toNat)
    case atStart => exact ⟨r0, r0 + 1, l, rfl, by go_num, by omega, by omega, hl, hfirst.symm, rfl, h1, k1, g1⟩
    case round =>
      obtain ⟨i, j, l', rfl, rfl, hij, hj, hl', hi', hd', hO, kr, hg⟩ := hrel
      by_cases hlt : j < n
      · obtain ⟨z, hz⟩ : ∃ z, l'.getD j default = z := ⟨_, rfl⟩
        have hz2 : l.getD j default = z := by
          rw [← hz]
          have := congrArg (fun m => m.getD 0 (default : PIt)) hd'.out
          simpa [List.getD_eq_getElem?_getD, List.getElem?_drop] using this.symm
        have hst := keepP_step P l j (by omega)
        rw [← hi'.out, hz2] at hst
        have hdrop : Hid (l'.drop (j + 1) = l.drop (j + 1)) := by
          have := congrArg (List.drop 1) hd'.out
          rw [List.drop_drop, List.drop_drop] at this
          exact this
        have hstay : Hid (P z.x = false → (l'.set i z).take (i + 1) = keepP P (l.take (j + 1)) ∧ (l'.set i z).drop (j + 1) = l.drop (j + 1)) := fun e => by
          refine ⟨?_, ?_⟩
          · rw [hst, show keepP P [z] = [z] by simp [keepP, e], List.take_add_one, List.take_set_of_le (Nat.le_refl _)]
            simp [List.getElem?_set_self (show i < l'.length by omega)]
          · rw [List.drop_set_of_lt (by omega)]; exact hdrop.out
        have hgo : Hid (P z.x = true → l'.take i = keepP P (l.take (j + 1))) := fun e => by
          rw [hst]; simp [keepP, e]
        have hPl := plIn_own hO hl'
        obtain ⟨b, o, hbo, hc⟩ := hPl.2.2 (by omega)
        simp only [Option.some.injEq, Addr.mk.injEq, and_true] at hbo
        obtain ⟨rfl, rfl⟩ := hbo
        obtain ⟨l0, l1, l2, l3, l4⟩ := PlIn.at hc hlt hz
        simp only [Nat.zero_add] at l0 l1 l2 l3 l4
        obtain ⟨w3, hw3⟩ : ∃ w3, w3 = wr.alloc (.cells #[.int .i64 z.k, .string z.x.s, .int .i64 z.x.t, .int .i64 z.x.d, .slice z.x.p z.x.n z.x.c] 96) := ⟨_, rfl⟩
        have b3 : Below wr.heap.size wr w3 := by rw [hw3]; exact made_below _ _ (Below.refl _ _)
        have C3 : Cells w3 wr.heap.size #[.int .i64 z.k, .string z.x.s, .int .i64 z.x.t, .int .i64 z.x.d, .slice z.x.p z.x.n z.x.c] := by rw [hw3]; exact Cells.made _ _ _
        have O3 := owns_below hO b3
        have kr3 := hK _ _ kr b3
        have C := hdel z w3 kr3
        replace hw3 : Hid (wr.alloc (.cells #[.int .i64 z.k, .string z.x.s, .int .i64 z.x.t, .int .i64 z.x.d, .slice z.x.p z.x.n z.x.c] 96) = w3) := hw3.symm
        have m0 : w3.cell? ⟨wr.heap.size, 0, none⟩ = some (.int .i64 z.k) := (C3.2 0).1
        have m1 : w3.cell? ⟨wr.heap.size, 1, none⟩ = some (.string z.x.s) := (C3.2 1).1
        have m2 : w3.cell? ⟨wr.heap.size, 2, none⟩ = some (.int .i64 z.x.t) := (C3.2 2).1
        have m3 : w3.cell? ⟨wr.heap.size, 3, none⟩ = some (.int .i64 z.x.d) := (C3.2 3).1
        have m4 : w3.cell? ⟨wr.heap.size, 4, none⟩ = some (.slice z.x.p z.x.n z.x.c) := (C3.2 4).1
        have hg3 := hg.trans (below_grown b3 (some g))
        clear hc hPl hO kr hz hz2 hst hi' hd' hdel hg b3
        cases e : P z.x
        · obtain ⟨hs1, hs2⟩ := hstay.out e
          replace hs1 : Hid _ := hs1
          replace hs2 : Hid _ := hs2
          rw [e] at C
          clear hgo e hstay hdrop
          go_wp2_with (rw [hw3.out])
          refine C.mono ?_
          rintro y w4 ⟨rfl, b4⟩
          have O4 := owns_below O3 b4
          have kr4 := hK _ _ kr3 b4
          have C4 := C3.on b4
          have hg4 := hg3.trans (below_grown b4 (some g))
          have q0 : w4.cell? ⟨wr.heap.size, 0, none⟩ = some (.int .i64 z.k) := (C4.2 0).1
          have q1 : w4.cell? ⟨wr.heap.size, 1, none⟩ = some (.string z.x.s) := (C4.2 1).1
          have q2 : w4.cell? ⟨wr.heap.size, 2, none⟩ = some (.int .i64 z.x.t) := (C4.2 2).1
          have q3 : w4.cell? ⟨wr.heap.size, 3, none⟩ = some (.int .i64 z.x.d) := (C4.2 3).1
          have q4 : w4.cell? ⟨wr.heap.size, 4, none⟩ = some (.slice z.x.p z.x.n z.x.c) := (C4.2 4).1
          obtain ⟨X, hX, OX, gX, ⟨u0, y0⟩, ⟨u1, y1⟩, ⟨u2, y2⟩, ⟨u3, y3⟩, ⟨u4, y4⟩, f0, f1, f2, f3, f4⟩ := store_pl (k := i) z O4 (by omega) hl'
          have krX := hG _ _ kr4 gX
          have hgX := hg4.trans gX
          have hin : i < n := by omega
          clear C l0 l1 l2 l3 l4 m0 m1 m2 m3 m4 C3 C4 O3 O4 kr3 kr4 hg3 hg4 b4 gX hw3
          go_wp2_with (rw [hX.out])
          go_roundw
          case rel => exact ⟨i + 1, j + 1, l'.set i z, by go_num, by go_num, by omega, by omega, by rw [List.length_set]; exact hl', hs1, hs2, OX, krX, hgX⟩
          case measure => simp [intOf]; omega
        · have hs1 : Hid _ := hgo.out e
          rw [e] at C
          clear hgo e hstay
          go_wp2_with (rw [hw3.out])
          refine C.mono ?_
          rintro y w4 ⟨rfl, b4⟩
          have O4 := owns_below O3 b4
          have kr4 := hK _ _ kr3 b4
          have hg4 := hg3.trans (below_grown b4 (some g))
          clear C l0 l1 l2 l3 l4 m0 m1 m2 m3 m4 C3 O3 kr3 hg3 b4 hw3
          go_wp2_with (fail)
          go_roundw
          case rel => exact ⟨i, j + 1, l', rfl, by go_num, by omega, by omega, hl', hs1, hdrop, O4, kr4, hg4⟩
          case measure => simp [intOf]; omega
      · have hjn : j = n := by omega
        subst hjn
        have hend : l'.take i = keepP P l := by rw [hi'.out, ← hl, List.take_length]
        have hlen : (keepP P l).length = i := by rw [← hend, List.length_take]; omega
        have hsl := slice_rowL g j c i hij hnc wr
        obtain ⟨X, hcl, OX, gX⟩ := clear_row (k := i) hO hij hl'
        rw [hend] at OX
        replace hlen : Hid _ := hlen
        have hs2 := slice_row g 0 j c i (by omega) X
        have hgX := hg.trans gX
        clear hi' hd' hend hO gX hg hdel
        go_wp2_with (first | simp only [hcl])
        go_ret
        rw [hlen.out]
        exact ⟨rfl, OX, hgX⟩

end Go.Proofs.Ytggbmpgpopenoaa
