/-
  slices.IndexFunc and slices.DeleteFunc with a shelf's test. Conditions: a row of one's own, a test that turns nothing, whatever it asks.
  (*shelf).drop: what of a route is asked away. Conditions: a shelf of no more than a law hands over; a test that turns nothing, whatever it asks.
  Whether a queue is right, of one item more than a law hands over, as both sides say it. Conditions: items that lie there.
  The program's own copies of items, the bytes of each too. Conditions: items that lie there, as many as a law hands over.
-/
import Derived.Test.YtkdbcplcpcdnbaaPart06
import Derived.Test.YtkdbcplcpcdnbaaPart02
import Derived.Test.YtkdbcplcpcdnbaaPart01
namespace Go.Proofs.Ytkdbcplcpcdnbaa
open Go.RowKit
set_option maxRecDepth 100000

theorem below_grown {w w' : World} (b : Below w.heap.size w w') (r : Option Nat) : w.grownBy w' r := ⟨b.os, b.tape, b.output, b.size, fun k hk _ => b.block k hk⟩
/-- What stays. -/
def keepP (P : ItA → Bool) (l : List PIt) : List PIt := l.filter (fun z => !P z.x)
theorem keepP_step (P : ItA → Bool) (l : List PIt) (k : Nat) (h : k < l.length) : keepP P (l.take (k + 1)) = keepP P (l.take k) ++ keepP P [l.getD k default] := by
  rw [take_getD h]
  simp [keepP]

set_option maxHeartbeats 4000000 in
theorem indexFuncD_any (P : ItA → Bool) (K : World → Prop) (hK : ∀ W W', K W → Below W.heap.size W W' → K W') (GB : Nat)
    (hdel : ∀ (z : PIt) (W : World), K W → Calls Try.prog 77 #[.agg #[.int .i64 z.k, .string z.x.s, .int .i64 z.x.t, .int .i64 z.x.d, .slice z.x.p z.x.n z.x.c], .pointer (some ⟨GB, 0, none⟩)] W fun e w' => e = .returned (.bool (P z.x)) ∧ Below W.heap.size W w')
    (p : Option Addr) (n c : Nat) (l : List PIt) (w : World) (hn : n ≤ 1048577) (hl : l.length = n) (h : PlIn w p n c l) (kw : K w) :
    Calls Try.prog 93 #[.slice p n c, .func (.func 77) #[] #[.pointer (some ⟨GB, 0, none⟩)]] w fun e w' => ∃ r : Int, e = .returned (.int .i64 r) ∧ Hid ((r = -1 ∧ keepP P l = l) ∨ ∃ k : Nat, r = k ∧ k < n ∧ keepP P (l.take (k + 1)) = l.take k) ∧ Below w.heap.size w w' := by
  go_enter Try.func93, Try.ntmps93
  go_wp2_with (fail)
  go_loopw [8] (fun i wr => ∃ k : Nat, k ≤ n ∧ i = .int .i64 k ∧ Hid (keepP P (l.take k) = l.take k) ∧ Below w.heap.size w wr) (fun i _ => n - (intOf i).toNat)
  case atStart => exact ⟨0, Nat.zero_le _, rfl, rfl, Below.refl _ _⟩
  case round =>
    obtain ⟨k, hk, rfl, hno, hbel⟩ := hrel
    by_cases hlt : k < n
    · obtain ⟨b, o, rfl, hc⟩ := (plIn_on h hbel).2.2 (by omega)
      obtain ⟨z, hz⟩ : ∃ z, l.getD k default = z := ⟨_, rfl⟩
      obtain ⟨l0, l1, l2, l3, l4⟩ := PlIn.at hc hlt hz
      have hst := keepP_step P l k (by omega)
      rw [hno.out, hz] at hst
      have hnext : Hid (P z.x = false → keepP P (l.take (k + 1)) = l.take (k + 1)) := fun e => by
        rw [hst, take_getD (by omega), hz]; simp [keepP, e]
      have hhere : Hid (P z.x = true → keepP P (l.take (k + 1)) = l.take k) := fun e => by
        rw [hst]; simp [keepP, e]
      have C := hdel z wr (hK _ _ kw hbel)
      clear hc h hz hno hst hdel
      cases e : P z.x
      · replace hnext : Hid _ := hnext.out e
        rw [e] at C
        clear hhere e
        go_wp2_with (fail)
        refine C.mono ?_
        rintro y w2 ⟨rfl, b2⟩
        have hbel2 := below_on hbel b2
        clear hbel b2 C
        go_wp2_with (fail)
        go_roundw
        case rel => exact ⟨k + 1, by omega, by go_num, hnext, hbel2⟩
        case measure => simp [intOf]; omega
      · replace hhere : Hid _ := hhere.out e
        rw [e] at C
        clear hnext e
        go_wp2_with (fail)
        refine C.mono ?_
        rintro y w2 ⟨rfl, b2⟩
        have hbel2 := below_on hbel b2
        clear hbel b2 C
        go_wp2_with (fail)
        go_ret
        exact ⟨k, rfl, .inr ⟨k, rfl, hlt, hhere.out⟩, hbel2⟩
    · have hkn : k = n := by omega
      subst hkn
      have hno' := hno.out
      rw [← hl, List.take_length] at hno'
      replace hno' : Hid _ := hno'
      clear hno
      go_wp2_with (fail)
      go_ret
      exact ⟨-1, rfl, .inl ⟨rfl, hno'.out⟩, hbel⟩

set_option maxHeartbeats 8000000 in
theorem deleteFunc_some (P : ItA → Bool) (K : World → Prop) (hK : ∀ W W', K W → Below W.heap.size W W' → K W') (GB : Nat)
    (hdel : ∀ (z : PIt) (W : World), K W → Calls Try.prog 77 #[.agg #[.int .i64 z.k, .string z.x.s, .int .i64 z.x.t, .int .i64 z.x.d, .slice z.x.p z.x.n z.x.c], .pointer (some ⟨GB, 0, none⟩)] W fun e w' => e = .returned (.bool (P z.x)) ∧ Below W.heap.size W w')
    (lo g n c : Nat) (l : List PIt) (w : World) (hn : n ≤ 1048577) (hl : l.length = n) (h : w.ownsRow lo 102 5 (.slice (some ⟨g, 0, none⟩) n c) n (flatP l)) (hG : ∀ W W', K W → W.grownBy W' (some g) → K W') (kw : K w) :
    Calls Try.prog 76 #[.slice (some ⟨g, 0, none⟩) n c, .func (.func 77) #[] #[.pointer (some ⟨GB, 0, none⟩)]] w fun e w' => e = .returned (.slice (some ⟨g, 0, none⟩) (keepP P l).length c) ∧ w'.ownsRow lo 102 5 (.slice (some ⟨g, 0, none⟩) (keepP P l).length c) (keepP P l).length (flatP (keepP P l)) ∧ w.grownBy w' (some g) := by
  have hP := plIn_own h hl
  have hnc := hP.1
  have CI := indexFuncD_any P K hK GB hdel (some ⟨g, 0, none⟩) n c l w hn hl hP kw
  go_enter Try.func76, Try.ntmps76
  go_wp2_with (fail)
  refine CI.mono ?_
  rintro e w1 ⟨r, rfl, hr, b1⟩
  have h1 := owns_below h b1
  have k1 := hK _ _ kw b1
  have g1 := below_grown b1 (some g)
  clear CI h b1 kw hP
  rcases hr.out with ⟨rfl, hall⟩ | ⟨r0, rfl, hr0, hfirst⟩
  · replace hall : Hid (keepP P l = l) := hall
    clear hr hdel
    go_wp2_with (fail)
    go_ret
    rw [hall.out, hl]
    exact ⟨rfl, h1, g1⟩
  · have hne : ((r0 : Int) == -1) = false := by first | (simp; done) | (simp; omega)
    clear hr
    go_wp2_with (fail)
    go_loopw [5, 6] (fun a b wr => ∃ (i j : Nat) (l' : List PIt), a = .int .i64 i ∧ b = .int .i64 j ∧ i < j ∧ j ≤ n ∧ l'.length = n ∧ Hid (l'.take i = keepP P (l.take j)) ∧ Hid (l'.drop j = l.drop j) ∧ wr.ownsRow lo 102 5 (.slice (some ⟨g, 0, none⟩) n c) n (flatP l') ∧ K wr ∧ w.grownBy wr (some g)) (fun _ b _ => n - (intOf b).toNat)
    case atStart => exact ⟨r0, r0 + 1, l, rfl, by go_num, by omega, by omega, hl, hfirst.symm, rfl, h1, k1, g1⟩
    case round =>
      obtain ⟨i, j, l', rfl, rfl, hij, hj, hl', hi', hd', hO, kr, hg⟩ := hrel
      by_cases hlt : j < n
      · obtain ⟨z, hz⟩ : ∃ z, l'.getD j default = z := ⟨_, rfl⟩
        have hz2 : l.getD j default = z := by
          rw [← hz]
          have := congrArg (fun m => m.getD 0 (default : PIt)) hd'.out
          simpa [List.getD_eq_getElem?_getD, List.getElem?_drop] using this.symm
        have hst := keepP_step P l j (by omega)
        rw [← hi'.out, hz2] at hst
        have hdrop : Hid (l'.drop (j + 1) = l.drop (j + 1)) := by
          have := congrArg (List.drop 1) hd'.out
          rw [List.drop_drop, List.drop_drop] at this
          exact this
        have hstay : Hid (P z.x = false → (l'.set i z).take (i + 1) = keepP P (l.take (j + 1)) ∧ (l'.set i z).drop (j + 1) = l.drop (j + 1)) := fun e => by
          refine ⟨?_, ?_⟩
          · rw [hst, show keepP P [z] = [z] by simp [keepP, e], List.take_add_one, List.take_set_of_le (Nat.le_refl _)]
            simp [List.getElem?_set_self (show i < l'.length by omega)]
          · rw [List.drop_set_of_lt (by omega)]; exact hdrop.out
        have hgo : Hid (P z.x = true → l'.take i = keepP P (l.take (j + 1))) := fun e => by
          rw [hst]; simp [keepP, e]
        have hPl := plIn_own hO hl'
        obtain ⟨b, o, hbo, hc⟩ := hPl.2.2 (by omega)
        simp only [Option.some.injEq, Addr.mk.injEq, and_true] at hbo
        obtain ⟨rfl, rfl⟩ := hbo
        obtain ⟨l0, l1, l2, l3, l4⟩ := PlIn.at hc hlt hz
        simp only [Nat.zero_add] at l0 l1 l2 l3 l4
        obtain ⟨w3, hw3⟩ : ∃ w3, w3 = wr.alloc (.cells #[.int .i64 z.k, .string z.x.s, .int .i64 z.x.t, .int .i64 z.x.d, .slice z.x.p z.x.n z.x.c] 102) := ⟨_, rfl⟩
        have b3 : Below wr.heap.size wr w3 := by rw [hw3]; exact made_below _ _ (Below.refl _ _)
        have C3 : Cells w3 wr.heap.size #[.int .i64 z.k, .string z.x.s, .int .i64 z.x.t, .int .i64 z.x.d, .slice z.x.p z.x.n z.x.c] := by rw [hw3]; exact Cells.made _ _ _
        have O3 := owns_below hO b3
        have kr3 := hK _ _ kr b3
        have C := hdel z w3 kr3
        replace hw3 : Hid (wr.alloc (.cells #[.int .i64 z.k, .string z.x.s, .int .i64 z.x.t, .int .i64 z.x.d, .slice z.x.p z.x.n z.x.c] 102) = w3) := hw3.symm
        have m0 : w3.cell? ⟨wr.heap.size, 0, none⟩ = some (.int .i64 z.k) := (C3.2 0).1
        have m1 : w3.cell? ⟨wr.heap.size, 1, none⟩ = some (.string z.x.s) := (C3.2 1).1
        have m2 : w3.cell? ⟨wr.heap.size, 2, none⟩ = some (.int .i64 z.x.t) := (C3.2 2).1
        have m3 : w3.cell? ⟨wr.heap.size, 3, none⟩ = some (.int .i64 z.x.d) := (C3.2 3).1
        have m4 : w3.cell? ⟨wr.heap.size, 4, none⟩ = some (.slice z.x.p z.x.n z.x.c) := (C3.2 4).1
        have hg3 := hg.trans (below_grown b3 (some g))
        clear hc hPl hO kr hz hz2 hst hi' hd' hdel hg b3
        cases e : P z.x
        · obtain ⟨hs1, hs2⟩ := hstay.out e
          replace hs1 : Hid _ := hs1
          replace hs2 : Hid _ := hs2
          rw [e] at C
          clear hgo e hstay hdrop
          go_wp2_with (rw [hw3.out])
          refine C.mono ?_
          rintro y w4 ⟨rfl, b4⟩
          have O4 := owns_below O3 b4
          have kr4 := hK _ _ kr3 b4
          have C4 := C3.on b4
          have hg4 := hg3.trans (below_grown b4 (some g))
          have q0 : w4.cell? ⟨wr.heap.size, 0, none⟩ = some (.int .i64 z.k) := (C4.2 0).1
          have q1 : w4.cell? ⟨wr.heap.size, 1, none⟩ = some (.string z.x.s) := (C4.2 1).1
          have q2 : w4.cell? ⟨wr.heap.size, 2, none⟩ = some (.int .i64 z.x.t) := (C4.2 2).1
          have q3 : w4.cell? ⟨wr.heap.size, 3, none⟩ = some (.int .i64 z.x.d) := (C4.2 3).1
          have q4 : w4.cell? ⟨wr.heap.size, 4, none⟩ = some (.slice z.x.p z.x.n z.x.c) := (C4.2 4).1
          obtain ⟨X, hX, OX, gX, ⟨u0, y0⟩, ⟨u1, y1⟩, ⟨u2, y2⟩, ⟨u3, y3⟩, ⟨u4, y4⟩, f0, f1, f2, f3, f4⟩ := store_pl (k := i) z O4 (by omega) hl'
          have krX := hG _ _ kr4 gX
          have hgX := hg4.trans gX
          have hin : i < n := by omega
          clear C l0 l1 l2 l3 l4 m0 m1 m2 m3 m4 C3 C4 O3 O4 kr3 kr4 hg3 hg4 b4 gX hw3
          go_wp2_with (rw [hX.out])
          go_roundw
          case rel => exact ⟨i + 1, j + 1, l'.set i z, by go_num, by go_num, by omega, by omega, by rw [List.length_set]; exact hl', hs1, hs2, OX, krX, hgX⟩
          case measure => simp [intOf]; omega
        · have hs1 : Hid _ := hgo.out e
          rw [e] at C
          clear hgo e hstay
          go_wp2_with (rw [hw3.out])
          refine C.mono ?_
          rintro y w4 ⟨rfl, b4⟩
          have O4 := owns_below O3 b4
          have kr4 := hK _ _ kr3 b4
          have hg4 := hg3.trans (below_grown b4 (some g))
          clear C l0 l1 l2 l3 l4 m0 m1 m2 m3 m4 C3 O3 kr3 hg3 b4 hw3
          go_wp2_with (fail)
          go_roundw
          case rel => exact ⟨i, j + 1, l', rfl, by go_num, by omega, by omega, hl', hs1, hdrop, O4, kr4, hg4⟩
          case measure => simp [intOf]; omega
      · have hjn : j = n := by omega
        subst hjn
        have hend : l'.take i = keepP P l := by rw [hi'.out, ← hl, List.take_length]
        have hlen : (keepP P l).length = i := by rw [← hend, List.length_take]; omega
        have hsl := slice_rowL g j c i hij hnc wr
        obtain ⟨X, hcl, OX, gX⟩ := clear_row (k := i) hO hij hl'
        rw [hend] at OX
        replace hlen : Hid _ := hlen
        have hs2 := slice_row g 0 j c i (by omega) X
        have hgX := hg.trans gX
        clear hi' hd' hend hO gX hg hdel
        go_wp2_with (first | simp only [hcl])
        go_ret
        rw [hlen.out]
        exact ⟨rfl, OX, hgX⟩

end Go.Proofs.Ytkdbcplcpcdnbaa

namespace Go.Proofs.Ytkdbcplcpcdnbaa
open Go.RowKit
set_option maxRecDepth 100000

theorem deleteFunc_any (P : ItA → Bool) (K : World → Prop) (hK : ∀ W W', K W → Below W.heap.size W W' → K W') (GB : Nat)
    (hdel : ∀ (z : PIt) (W : World), K W → Calls Try.prog 77 #[.agg #[.int .i64 z.k, .string z.x.s, .int .i64 z.x.t, .int .i64 z.x.d, .slice z.x.p z.x.n z.x.c], .pointer (some ⟨GB, 0, none⟩)] W fun e w' => e = .returned (.bool (P z.x)) ∧ Below W.heap.size W w')
    (lo : Nat) (p : Option Addr) (n c : Nat) (l : List PIt) (w : World) (hn : n ≤ 1048577) (hl : l.length = n) (h : w.ownsRow lo 102 5 (.slice p n c) n (flatP l)) (hG : ∀ g, (Value.slice p n c).ownBlock = some g → ∀ W W', K W → W.grownBy W' (some g) → K W') (kw : K w) :
    Calls Try.prog 76 #[.slice p n c, .func (.func 77) #[] #[.pointer (some ⟨GB, 0, none⟩)]] w fun e w' => e = .returned (.slice p (keepP P l).length c) ∧ w'.ownsRow lo 102 5 (.slice p (keepP P l).length c) (keepP P l).length (flatP (keepP P l)) ∧ w.grownBy w' (Value.slice p n c).ownBlock := by
  rcases h.2 with ⟨hv, h0⟩ | ⟨g, cap, cur, hv, _⟩
  · simp only [Value.slice.injEq] at hv
    obtain ⟨rfl, _, rfl⟩ := hv
    subst h0
    obtain rfl : l = [] := List.length_eq_zero_iff.1 hl
    have CI := indexFuncD_any P K hK GB hdel none 0 0 [] w hn rfl ⟨Nat.le_refl _, by omega, fun h => by omega⟩ kw
    go_enter Try.func76, Try.ntmps76
    go_wp2_with (fail)
    refine CI.mono ?_
    rintro e w1 ⟨r, rfl, hr, b1⟩
    rcases hr.out with ⟨rfl, _⟩ | ⟨r0, _, hr0, _⟩
    · clear hr hdel CI
      have g1 := below_grown b1 none
      go_wp2_with (fail)
      go_ret
      exact ⟨rfl, World.ownsRow_nil _ _ _ _, g1⟩
    · omega
  · simp only [Value.slice.injEq] at hv
    obtain ⟨rfl, _, rfl⟩ := hv
    exact deleteFunc_some P K hK GB hdel lo g n c l w hn hl h (hG g rfl) kw

theorem drop1_put (P : ItA → Bool) (XB GB : Nat) (KK : World → Prop) (hKK : ∀ W W', KK W → Below W.heap.size W W' → KK W')
    (hgoes : ∀ (x : ItA) (W : World), KK W → Calls Try.prog 43 #[.agg #[.string x.s, .int .i64 x.t, .int .i64 x.d, .slice x.p x.n x.c], .pointer (some ⟨XB, 0, none⟩)] W fun e w' => e = .returned (.bool (P x)) ∧ Below W.heap.size W w')
    (z : PIt) (w : World) (hf : w.cell? ⟨GB, 0, none⟩ = some (.func (.func 43) #[] #[.pointer (some ⟨XB, 0, none⟩)])) (kw : KK w) :
    Calls Try.prog 77 #[.agg #[.int .i64 z.k, .string z.x.s, .int .i64 z.x.t, .int .i64 z.x.d, .slice z.x.p z.x.n z.x.c], .pointer (some ⟨GB, 0, none⟩)] w fun e w' => e = .returned (.bool (P z.x)) ∧ Below w.heap.size w w' := by
  obtain ⟨w1, hw1⟩ : ∃ w1, w1 = w.alloc (.cells #[.int .i64 z.k, .string z.x.s, .int .i64 z.x.t, .int .i64 z.x.d, .slice z.x.p z.x.n z.x.c] 102) := ⟨_, rfl⟩
  have b1 : Below w.heap.size w w1 := by rw [hw1]; exact made_below _ _ (Below.refl _ _)
  have C1 : Cells w1 w.heap.size #[.int .i64 z.k, .string z.x.s, .int .i64 z.x.t, .int .i64 z.x.d, .slice z.x.p z.x.n z.x.c] := by rw [hw1]; exact Cells.made _ _ _
  have m1 : w1.cell? ⟨w.heap.size, 1, none⟩ = some (.string z.x.s) := (C1.2 1).1
  have m2 : w1.cell? ⟨w.heap.size, 2, none⟩ = some (.int .i64 z.x.t) := (C1.2 2).1
  have m3 : w1.cell? ⟨w.heap.size, 3, none⟩ = some (.int .i64 z.x.d) := (C1.2 3).1
  have m4 : w1.cell? ⟨w.heap.size, 4, none⟩ = some (.slice z.x.p z.x.n z.x.c) := (C1.2 4).1
  have hf1 : w1.cell? ⟨GB, 0, none⟩ = some (.func (.func 43) #[] #[.pointer (some ⟨XB, 0, none⟩)]) := (b1.cell (World.block_lt_of_cell? w _ hf)).trans hf
  replace hw1 : Hid (w.alloc (.cells #[.int .i64 z.k, .string z.x.s, .int .i64 z.x.t, .int .i64 z.x.d, .slice z.x.p z.x.n z.x.c] 102) = w1) := hw1.symm
  have C := hgoes z.x w1 (hKK _ _ kw b1)
  clear hgoes hKK kw hf C1
  go_enter Try.func77, Try.ntmps77
  go_wp2_with (rw [hw1.out])
  refine C.mono ?_
  rintro e w2 ⟨rfl, b2⟩
  have k2 := below_on b1 b2
  clear C m1 m2 m3 m4 hf1 b1 b2 hw1
  go_wp2_with (fail)
  go_ret
  exact ⟨rfl, k2⟩

theorem drop1_due (P : ItA → Bool) (XB GB : Nat) (KK : World → Prop) (hKK : ∀ W W', KK W → Below W.heap.size W W' → KK W')
    (hgoes : ∀ (x : ItA) (W : World), KK W → Calls Try.prog 53 #[.agg #[.string x.s, .int .i64 x.t, .int .i64 x.d, .slice x.p x.n x.c], .pointer (some ⟨XB, 0, none⟩)] W fun e w' => e = .returned (.bool (P x)) ∧ Below W.heap.size W w')
    (z : PIt) (w : World) (hf : w.cell? ⟨GB, 0, none⟩ = some (.func (.func 53) #[] #[.pointer (some ⟨XB, 0, none⟩)])) (kw : KK w) :
    Calls Try.prog 77 #[.agg #[.int .i64 z.k, .string z.x.s, .int .i64 z.x.t, .int .i64 z.x.d, .slice z.x.p z.x.n z.x.c], .pointer (some ⟨GB, 0, none⟩)] w fun e w' => e = .returned (.bool (P z.x)) ∧ Below w.heap.size w w' := by
  obtain ⟨w1, hw1⟩ : ∃ w1, w1 = w.alloc (.cells #[.int .i64 z.k, .string z.x.s, .int .i64 z.x.t, .int .i64 z.x.d, .slice z.x.p z.x.n z.x.c] 102) := ⟨_, rfl⟩
  have b1 : Below w.heap.size w w1 := by rw [hw1]; exact made_below _ _ (Below.refl _ _)
  have C1 : Cells w1 w.heap.size #[.int .i64 z.k, .string z.x.s, .int .i64 z.x.t, .int .i64 z.x.d, .slice z.x.p z.x.n z.x.c] := by rw [hw1]; exact Cells.made _ _ _
  have m1 : w1.cell? ⟨w.heap.size, 1, none⟩ = some (.string z.x.s) := (C1.2 1).1
  have m2 : w1.cell? ⟨w.heap.size, 2, none⟩ = some (.int .i64 z.x.t) := (C1.2 2).1
  have m3 : w1.cell? ⟨w.heap.size, 3, none⟩ = some (.int .i64 z.x.d) := (C1.2 3).1
  have m4 : w1.cell? ⟨w.heap.size, 4, none⟩ = some (.slice z.x.p z.x.n z.x.c) := (C1.2 4).1
  have hf1 : w1.cell? ⟨GB, 0, none⟩ = some (.func (.func 53) #[] #[.pointer (some ⟨XB, 0, none⟩)]) := (b1.cell (World.block_lt_of_cell? w _ hf)).trans hf
  replace hw1 : Hid (w.alloc (.cells #[.int .i64 z.k, .string z.x.s, .int .i64 z.x.t, .int .i64 z.x.d, .slice z.x.p z.x.n z.x.c] 102) = w1) := hw1.symm
  have C := hgoes z.x w1 (hKK _ _ kw b1)
  clear hgoes hKK kw hf C1
  go_enter Try.func77, Try.ntmps77
  go_wp2_with (rw [hw1.out])
  refine C.mono ?_
  rintro e w2 ⟨rfl, b2⟩
  have k2 := below_on b1 b2
  clear C m1 m2 m3 m4 hf1 b1 b2 hw1
  go_wp2_with (fail)
  go_ret
  exact ⟨rfl, k2⟩

/-- L without what of a route is asked away. -/
def outP (s : ByteArray) (P : ItA → Bool) (L : List PIt) : List PIt := L.filter (fun z => !(decide (z.x.s = s) && P z.x))
theorem outP_same (s : ByteArray) (P : ItA → Bool) (L : List PIt) : ofR s (outP s P L) = keepP P (ofR s L) := by
  unfold ofR outP keepP
  rw [List.filter_filter, List.filter_filter]
  refine List.filter_congr fun z _ => ?_
  by_cases e : z.x.s = s <;> simp [e]
theorem outP_other (s y : ByteArray) (P : ItA → Bool) (L : List PIt) (h : y ≠ s) : ofR y (outP s P L) = ofR y L := by
  unfold ofR outP
  rw [List.filter_filter]
  refine List.filter_congr fun z _ => ?_
  by_cases e : z.x.s = y
  · simp [e, h]
  · simp [e]
theorem outP_sub (s : ByteArray) (P : ItA → Bool) (L : List PIt) : (outP s P L).Sublist L := List.filter_sublist

theorem Rows13.drop {w w1 w2 : World} {lo S B n : Nat} {m : ByteArray → Option Value} {L : List PIt} {P : ItA → Bool} {s : ByteArray} {p : Option Addr} {c : Nat} (h : Rows13 w lo S B n m L) (hv : (m s).getD (.slice none 0 0) = .slice p (ofR s L).length c)
    (hg : w.grownBy w1 (Value.slice p (ofR s L).length c).ownBlock) (hrow : w1.ownsRow lo 102 5 (.slice p (keepP P (ofR s L)).length c) (keepP P (ofR s L)).length (flatP (keepP P (ofR s L))))
    (hmap : MapW w2 B (n + 1) (fun y => if y = s then (if (keepP P (ofR s L)).length = 0 then none else some (.slice p (keepP P (ofR s L)).length c)) else m y)) (ht : w1.grownBy w2 (some B)) :
    Rows13 w2 lo S B (n + 1) (fun y => if y = s then (if (keepP P (ofR s L)).length = 0 then none else some (.slice p (keepP P (ofR s L)).length c)) else m y) (outP s P L) := by
  have hob : ∀ k, (Value.slice p k c).ownBlock = ((m s).getD (.slice none 0 0)).ownBlock := fun k => by rw [hv]; cases p <;> rfl
  have hB : some B ≠ ((m s).getD (.slice none 0 0)).ownBlock := fun e => row_not_map h.map (h.row s) e.symm
  have hold : ∀ y v, y ≠ s → m y = some v → v.ownBlock ≠ ((m s).getD (.slice none 0 0)).ownBlock := fun y v hy hmy e => by
    cases hz : m s with
    | none => rw [hz] at e; exact h.ne hmy e
    | some u => rw [hz] at e; exact h.apart y s v u hy hmy hz e
  have hsome : (keepP P (ofR s L)).length ≠ 0 → ∃ u, m s = some u := fun e => by
    have : ofR s L ≠ [] := fun e2 => e (by rw [e2]; rfl)
    obtain ⟨v, hv, _⟩ := h.aRow s this
    exact ⟨v, hv⟩
  rw [hob] at hg
  refine ⟨hmap, h.loB, fun y hy => ?_, fun y hy => ?_, fun y y' v u hyy hv' hu => ?_, fun y v hv' => ?_⟩
  · by_cases e : y = s
    · subst e
      rw [outP_same] at hy
      simp [hy]
    · rw [outP_other s y P L e] at hy
      simp only [if_neg e]
      exact h.noRow y hy
  · by_cases e : y = s
    · subst e
      rw [outP_same] at hy ⊢
      have h0 : (keepP P (ofR y L)).length ≠ 0 := fun k => hy (List.length_eq_zero_iff.1 k)
      refine ⟨.slice p (keepP P (ofR y L)).length c, by simp only [if_true, if_neg h0], ?_⟩
      exact hrow.kept ht (.inr (by rw [hob]; exact fun k => hB k.symm))
    · rw [outP_other s y P L e] at hy ⊢
      obtain ⟨v, hmy, ho⟩ := h.aRow y hy
      refine ⟨v, by simp only [if_neg e]; exact hmy, ?_⟩
      exact (ho.kept hg (.inr (hold y v e hmy))).kept ht (.inr (row_not_map h.map ho))
  · by_cases e : y = s
    · subst e
      simp only [if_true] at hv'
      by_cases h0 : (keepP P (ofR y L)).length = 0
      · rw [if_pos h0] at hv'; cases hv'
      · rw [if_neg h0] at hv'
        cases hv'
        rw [if_neg (Ne.symm hyy)] at hu
        rw [hob]
        exact fun k => hold y' u (Ne.symm hyy) hu k.symm
    · simp only [if_neg e] at hv'
      by_cases e' : y' = s
      · subst e'
        simp only [if_true] at hu
        by_cases h0 : (keepP P (ofR y' L)).length = 0
        · rw [if_pos h0] at hu; cases hu
        · rw [if_neg h0] at hu
          cases hu
          rw [hob]
          exact hold y v e hv'
      · simp only [if_neg e'] at hu
        exact h.apart y y' v u hyy hv' hu
  · by_cases e : y = s
    · subst e
      simp only [if_true] at hv'
      by_cases h0 : (keepP P (ofR y L)).length = 0
      · rw [if_pos h0] at hv'; cases hv'
      · rw [if_neg h0] at hv'
        cases hv'
        obtain ⟨u, hu⟩ := hsome h0
        rw [hob, hu]
        exact h.off y u hu
    · simp only [if_neg e] at hv'
      exact h.off y v hv'

set_option maxHeartbeats 4000000 in
theorem drop_any (P : ItA → Bool) (G XB : Nat) (KK : World → Prop) (hKK : ∀ W W', KK W → Below W.heap.size W W' → KK W')
    (hdrop1 : ∀ (GB : Nat) (z : PIt) (W : World), W.cell? ⟨GB, 0, none⟩ = some (.func (.func G) #[] #[.pointer (some ⟨XB, 0, none⟩)]) → KK W → Calls Try.prog 77 #[.agg #[.int .i64 z.k, .string z.x.s, .int .i64 z.x.t, .int .i64 z.x.d, .slice z.x.p z.x.n z.x.c], .pointer (some ⟨GB, 0, none⟩)] W fun e w' => e = .returned (.bool (P z.x)) ∧ Below W.heap.size W w')
    (w : World) (lo S B n : Nat) (m : ByteArray → Option Value) (L : List PIt) (nx : Int) (s : ByteArray) (hs : s.size ≤ 1048576) (hn : n ≤ 16777216) (hL : L.length ≤ 1048577) (hC : Cells w S #[.map (some B), .int .i64 nx]) (hlo : lo ≤ S) (hR : Rows13 w lo S B n m L)
    (hKG : ∀ g W W', lo ≤ g → KK W → W.grownBy W' (some g) → KK W') (kw : KK w) :
    Calls Try.prog 42 #[.pointer (some ⟨S, 0, none⟩), .string s, .func (.func G) #[] #[.pointer (some ⟨XB, 0, none⟩)]] w fun e w' => ∃ m', e = .returned (.tuple #[]) ∧ Cells w' S #[.map (some B), .int .i64 nx] ∧ Rows13 w' lo S B (n + 1) m' (outP s P L) ∧ (∀ y, y ≠ s → m' y = m y) ∧ Below lo w w' ∧ KK w' := by
  have hSw := hC.1
  have hSB : B ≠ S := cells_not_map hR.map hC (by simp)
  obtain ⟨w1, hw1⟩ : ∃ w1, w1 = w.alloc (.cells #[.func (.func G) #[] #[.pointer (some ⟨XB, 0, none⟩)]] 44) := ⟨_, rfl⟩
  have b1 : Below w.heap.size w w1 := by rw [hw1]; exact made_below _ _ (Below.refl _ _)
  have C1 : Cells w1 w.heap.size #[.func (.func G) #[] #[.pointer (some ⟨XB, 0, none⟩)]] := by rw [hw1]; exact Cells.made _ _ _
  replace hw1 : Hid (w.alloc (.cells #[.func (.func G) #[] #[.pointer (some ⟨XB, 0, none⟩)]] 44) = w1) := hw1.symm
  have hR1 := hR.on b1
  have hC1 := hC.on b1
  have l0 : w1.cell? ⟨S, 0, none⟩ = some (.map (some B)) := (hC1.2 0).1
  have f0 : w1.cell? ⟨w.heap.size, 0, none⟩ = some (.func (.func G) #[] #[.pointer (some ⟨XB, 0, none⟩)]) := (C1.2 0).1
  have hlk := hR1.map.look s hs
  have hrow := hR1.row s
  obtain ⟨p, c, hv⟩ : ∃ p c, (m s).getD (.slice none 0 0) = .slice p (ofR s L).length c := by
    rcases hrow.2 with ⟨e, h0⟩ | ⟨g, cap, cur, e, _⟩
    · rw [e, h0]; exact ⟨none, 0, rfl⟩
    · rw [e]; exact ⟨_, _, rfl⟩
  rw [hv] at hrow hlk
  have hlen := ofR_len s L
  have hrow0 := hR.row s
  rw [hv] at hrow0
  have CD := deleteFunc_any P (fun W => W.cell? ⟨w.heap.size, 0, none⟩ = some (.func (.func G) #[] #[.pointer (some ⟨XB, 0, none⟩)]) ∧ KK W)
    (fun W W' k b => ⟨(b.cell (World.block_lt_of_cell? W _ k.1)).trans k.1, hKK W W' k.2 b⟩) w.heap.size (fun z W k => hdrop1 w.heap.size z W k.1 k.2)
    lo p (ofR s L).length c (ofR s L) w1 (by omega) rfl hrow
    (fun g hg W W' k gr => by
      have hb := hrow0.lt g hg
      refine ⟨?_, hKG g W W' hb.1 k.2 gr⟩
      rw [World.cell?_of_block (w := W) (gr.block w.heap.size (World.block_lt_of_cell? W _ k.1) (fun e => by simp only [Option.some.injEq] at e; omega))]
      exact k.1) ⟨f0, hKK _ _ kw b1⟩
  have hkl : (keepP P (ofR s L)).length ≤ 1048577 := Nat.le_trans (List.length_filter_le _ _) (by omega)
  have hgb : Hid (∀ g, (Value.slice p (ofR s L).length c).ownBlock = some g → lo ≤ g ∧ g < w.heap.size ∧ g ≠ S ∧ g ≠ B) := fun g hg => by
    have hb := hrow0.lt g hg
    refine ⟨hb.1, hb.2, fun e => ?_, fun e => ?_⟩
    · cases hm : m s with
      | none => rw [hm] at hv; simp only [Option.getD_none] at hv; rw [← hv] at hg; cases hg
      | some u =>
        rw [hm] at hv
        simp only [Option.getD_some] at hv
        exact hR.off s u hm (by rw [hv, hg, e])
    · exact row_not_map hR.map hrow0 (by rw [hg, e])
  obtain ⟨rl, hrl⟩ : ∃ rl, rl = (ofR s L).length := ⟨_, rfl⟩
  obtain ⟨kp, hkp⟩ : ∃ kp, kp = keepP P (ofR s L) := ⟨_, rfl⟩
  obtain ⟨kn, hkn⟩ : ∃ kn, kn = kp.length := ⟨_, rfl⟩
  rw [← hkp, ← hkn, ← hrl] at CD
  rw [← hrl] at hlk
  replace hrl : Hid (rl = (ofR s L).length) := hrl
  replace hkp : Hid (kp = keepP P (ofR s L)) := hkp
  have hkn2 : kn ≤ 1048577 := by rw [hkn, hkp.out]; exact hkl
  replace hkn : Hid (kn = kp.length) := hkn
  clear hrow hrow0 hlen hkl hR1 C1 f0 hdrop1
  go_enter Try.func42, Try.ntmps42
  go_wp2_with (rw [hw1.out])
  refine CD.mono ?_
  rintro e w2 ⟨rfl, O2, g2⟩
  rw [hrl.out] at g2
  have l2 : w2.cell? ⟨S, 0, none⟩ = some (.map (some B)) := by
    rw [World.cell?_of_block (w := w1) (g2.block S (hC1.1) (fun k => (hgb.out S k.symm).2.2.1 rfl))]
    exact l0
  have M2 : MapW w2 B n m := (hR.map.on b1).kept g2 (fun k => (hgb.out B k.symm).2.2.2 rfl)
  have CL := leave_any w2 S B n m s p kn c l2 M2 hs hn hkn2
  have C2 : Cells w2 S #[.map (some B), .int .i64 nx] := hC1.grown g2 (fun k => (hgb.out S k.symm).2.2.1 rfl)
  have kk2 : KK w2 := by
    cases ho : (Value.slice p (ofR s L).length c).ownBlock with
    | none => rw [ho] at g2; exact hKG S w1 w2 hlo (hKK _ _ kw b1) ⟨g2.os, g2.tape, g2.output, g2.size, fun k hk _ => g2.block k hk (by simp)⟩
    | some g => rw [ho] at g2; exact hKG g w1 w2 (hgb.out g ho).1 (hKK _ _ kw b1) g2
  have bb2 : Below lo w w2 := (b1.mono (by omega)).grown g2 (by have := b1.size; omega) (fun j hj => (hgb.out j hj).1)
  clear CD hlk l0
  go_wp2_with (fail)
  refine CL.mono ?_
  rintro e w3 ⟨rfl, M3, t3⟩
  have C3 : Cells w3 S #[.map (some B), .int .i64 nx] := C2.grown t3.grown (fun k => hSB (by cases k; rfl))
  have kk3 : KK w3 := hKG B w2 w3 hR.loB kk2 t3.grown
  have bb3 : Below lo w w3 := bb2.grown t3.grown (by have := bb2.size; omega) (fun j hj => by cases hj; exact hR.loB)
  rw [hkn.out, hkp.out] at M3
  rw [hkn.out, hkp.out] at O2
  have R3 := (hR.on b1).drop (P := P) (s := s) (p := p) (c := c) hv g2 O2 M3 t3.grown
  clear CL M3 O2 M2 C2 l2
  go_wp2_with (fail)
  first | go_end0 | (simp only [Exit.inBlock, Exit.then]; refine bodyPost_ret (results_none rfl _ _ _) rfl ?_) | refine bodyPost_ret (results_none rfl _ _ _) rfl ?_
  exact ⟨_, rfl, C3, R3, fun y hy => by simp only [if_neg hy], bb3, kk3⟩

end Go.Proofs.Ytkdbcplcpcdnbaa

namespace Go.Proofs.Ytkdbcplcpcdnbaa
open Go.RowKit
set_option maxRecDepth 100000

set_option maxHeartbeats 4000000 in
theorem specOfW_any (p : Option Addr) (n c : Nat) (its : List ItA) (s : ByteArray) (w : World) (hn : n ≤ 1048577) (hl : its.length = n) (h : ItemsIn w p n its) :
    Calls Try.prog 22 #[.slice p n c, .string s] w fun e w' => e = .returned (.int .i64 (cntI s its)) ∧ w' = w := by
  go_enter Try.func22, Try.ntmps22
  go_wp2_with (fail)
  go_loopw [5, 6] (fun a i wr => ∃ k : Nat, k ≤ n ∧ i = .int .i64 k ∧ (∃ m : Nat, a = .int .i64 m ∧ Hid (m = cntI s (its.take k)) ∧ m ≤ 1048577) ∧ wr = w) (fun _ i _ => n - (intOf i).toNat)
  case atStart => exact ⟨0, Nat.zero_le _, rfl, ⟨0, rfl, rfl, by omega⟩, rfl⟩
  case round =>
    obtain ⟨k, hk, rfl, ⟨m, rfl, hm, hm1⟩, rfl⟩ := hrel
    by_cases hlt : k < n
    · obtain ⟨b, o, rfl, hc⟩ := h (by omega)
      have h1 : wr.cell? ⟨b, o + k * 4, none⟩ = some (.string (its.getD k default).s) := hc k 0 _ hlt rfl
      have hst := cntI_step s its k (by omega)
      have hle := cntI_le s (its.take (k + 1))
      generalize (its.getD k default).s = u at h1 hst
      clear hc h
      have e1 := str_eq_any u s
      go_wp2_with (fail)
      refine (bit_any _ _).mono ?_
      rintro z w1 ⟨rfl, rfl⟩
      obtain ⟨g, hg⟩ : ∃ g : Nat, g = if u = s then 1 else 0 := ⟨_, rfl⟩
      have eg : (if decide (u = s) = true then (1 : Int) else 0) = (g : Int) := by
        rw [hg]
        by_cases hh : u = s <;> simp [hh]
      rw [eg]
      have hg1 : g ≤ 1 := by rw [hg]; split <;> omega
      have hnew : Hid (m + g = cntI s (its.take (k + 1))) := by rw [Hid, hst, ← hg, ← hm.out]
      have hmg : m + g ≤ 1048577 := by
        have := hnew.out
        have := List.length_take_le (k + 1) its
        rw [List.length_take] at hle
        omega
      clear hg eg e1 hst hle hm
      go_wp2_with (fail)
      go_roundw
      case rel => exact ⟨k + 1, by omega, by go_num, ⟨m + g, by go_num, hnew, hmg⟩, trivial⟩
      case measure => simp [intOf]; omega
    · have hkn : k = n := by omega
      subst hkn
      have hall : Hid (m = cntI s its) := by rw [Hid, hm.out, ← hl, List.take_length]
      clear hm
      go_wp2_with (fail)
      go_ret
      exact ⟨by rw [← hall.out]; rfl, rfl⟩


set_option maxHeartbeats 8000000 in
theorem specQueueOkW_any (p : Option Addr) (n c : Nat) (its : List ItA) (w : World) (hn : n ≤ 1048577) (hl : its.length = n) (h : ItemsIn w p n its) (hs : ∀ x ∈ its, x.s.size ≤ 1048576) :
    Calls Try.prog 24 #[.slice p n c] w fun e w' => e = .returned (.bool (qB its)) ∧ Below w.heap.size w w' := by
  obtain ⟨R, hR⟩ : ∃ R : Bool, R = qB its := ⟨_, rfl⟩
  rw [← hR]
  have hno : Hid (∀ i, i < n → ¬ okAt its i → R = false) := fun i hi hx => by rw [hR]; exact qB_false fun q => hx (q.2 i (by omega))
  have hall : Hid ((∀ i, i < n → okAt its i) → R = decide (n ≤ 10)) := fun ha => by
    rw [hR]
    by_cases e : n ≤ 10
    · rw [decide_eq_true e]; exact qB_true ⟨by omega, fun i hi => ha i (by omega)⟩
    · rw [decide_eq_false e]; exact qB_false fun q => e (by have := q.1; omega)
  clear hR
  go_enter Try.func24, Try.ntmps24
  go_wp2_with (fail)
  go_loopw [3] (fun i wr => ∃ k : Nat, k ≤ n ∧ i = .int .i64 k ∧ Hid (∀ j, j < k → okAt its j) ∧ Below w.heap.size w wr) (fun i _ => n - (intOf i).toNat)
  case atStart => exact ⟨0, Nat.zero_le _, rfl, fun j hj => absurd hj (Nat.not_lt_zero _), Below.refl _ _⟩
  case round =>
    obtain ⟨k, hk, rfl, hdone, hbel⟩ := hrel
    by_cases hlt : k < n
    · have hI := itemsIn_on h hbel
      obtain ⟨b, o, rfl, hc⟩ := hI (by omega)
      obtain ⟨x, hx⟩ : ∃ x, its.getD k default = x := ⟨_, rfl⟩
      obtain ⟨l0, l1, l2, l3⟩ := ItemsIn.at hc hlt hx
      have hsx := hs x (hx ▸ getD_mem (by omega))
      have hok : Hid (okAt its k ↔ itB x.s x.t x.d x.n = true ∧ cntI x.s its ≤ 4 ∧ ∀ j, j < k → ¬ clash (its.getD j default) x) := by rw [Hid, okAt, hx]
      have hle := cntI_le x.s its
      obtain ⟨s, t, d, xp, xn, xc, xs⟩ := x
      dsimp only at l0 l1 l2 l3 hsx hok hle
      have C := specItemOk_any s t d xp xn xc wr hsx
      cases hb : itB s t d xn
      · rw [hb] at C
        have hr := hno.out k hlt (fun q => by have := (hok.out.1 q).1; rw [hb] at this; cases this)
        subst hr
        clear hno hall hok hdone hc hI hx hb
        go_wp2_with (fail)
        refine C.mono ?_
        rintro z w2 ⟨rfl, b2⟩
        have hbel2 := below_on hbel b2
        clear b2 hbel C
        go_wp2_with (fail)
        go_ret
        exact ⟨rfl, hbel2⟩
      · rw [hb] at C
        go_wp2_with (fail)
        refine C.mono ?_
        rintro z w2 ⟨rfl, b2⟩
        have hbel2 := below_on hbel b2
        have hI2 := itemsIn_on h hbel2
        obtain ⟨b', o', hpe, hc2⟩ := hI2 (by omega)
        simp only [Option.some.injEq, Addr.mk.injEq, and_true] at hpe
        obtain ⟨rfl, rfl⟩ := hpe
        obtain ⟨m0, m1, m2, m3⟩ := ItemsIn.at hc2 hlt hx
        dsimp only at m0 m1 m2 m3
        have C2 := specOfW_any (some ⟨b, o, none⟩) n c its s w2 hn hl hI2
        obtain ⟨cn, hcn⟩ : ∃ cn, cn = cntI s its := ⟨_, rfl⟩
        rw [← hcn] at C2
        replace hcn : Hid (cn = cntI s its) := hcn
        have hcl : cn ≤ 1048577 := by have := hcn.out; omega
        clear b2 hbel C hI hc l0 l1 l2 l3 hle
        by_cases h4 : (cn : Int) ≤ 4
        · go_wp2_with (fail)
          refine C2.mono ?_
          rintro z w3 ⟨rfl, rfl⟩
          clear C2
          go_wp2_with (fail)
          go_loopw [4] (fun i wr => ∃ j : Nat, j ≤ k ∧ i = .int .i64 j ∧ Hid (∀ l, l < j → ¬ clash (its.getD l default) ⟨s, t, d, xp, xn, xc, xs⟩) ∧ Below w.heap.size w wr) (fun i _ => k - (intOf i).toNat)
          case atStart => exact ⟨0, Nat.zero_le _, rfl, fun j hj => absurd hj (Nat.not_lt_zero _), hbel2⟩
          case round =>
            obtain ⟨j, hj, rfl, hcl2, hbelj⟩ := hrel
            obtain ⟨b', o', hpe, hcj⟩ := itemsIn_on h hbelj (by omega)
            simp only [Option.some.injEq, Addr.mk.injEq, and_true] at hpe
            obtain ⟨rfl, rfl⟩ := hpe
            by_cases hjk : j < k
            · obtain ⟨y, hy⟩ : ∃ y, its.getD j default = y := ⟨_, rfl⟩
              obtain ⟨n0, n1, n2, n3⟩ := ItemsIn.at hcj (show j < n by omega) hy
              obtain ⟨l0, l1, l2, l3⟩ := ItemsIn.at hcj hlt hx
              dsimp only at l0 l1 l2 l3
              have hmore : ¬ clash y ⟨s, t, d, xp, xn, xc, xs⟩ → Hid (∀ l, l < j + 1 → ¬ clash (its.getD l default) ⟨s, t, d, xp, xn, xc, xs⟩) := fun q l hl1 => by
                rcases Nat.lt_succ_iff_lt_or_eq.1 hl1 with e | e
                · exact hcl2.out l e
                · rw [e, hy]; exact q
              have hend : Hid (clash y ⟨s, t, d, xp, xn, xc, xs⟩ → R = false) := fun q => hno.out k hlt fun ok => (hok.out.1 ok).2.2 j hjk (by rw [hy]; exact q)
              obtain ⟨s', t', d', yp, yn, yc, ys⟩ := y
              dsimp only at n0 n1 n2 n3
              have hcl3 : clash ⟨s', t', d', yp, yn, yc, ys⟩ ⟨s, t, d, xp, xn, xc, xs⟩ ↔ s' = s ∧ t' = t ∧ 0 < t := Iff.rfl
              rw [hcl3] at hmore
              replace hend : Hid (s' = s ∧ t' = t ∧ 0 < t → R = false) := fun q => hend.out (hcl3.2 q)
              clear hcj hcl2 hcl3 hx hy hno hall hdone hI2 hc2 h hok m0 m1 m2 m3 hbel2
              by_cases e1 : s' = s
              · by_cases e2 : t' = t
                · by_cases e3 : 0 < t
                  · have hr := hend.out ⟨e1, e2, e3⟩
                    subst hr
                    subst e1 e2
                    clear hend hmore
                    go_wp2_with (fail)
                    go_quiet (fail)
                    go_wp2_with (fail)
                    go_ret
                    exact ⟨rfl, below_drewN hbelj _⟩
                  · replace hmore := hmore (fun q => e3 q.2.2)
                    subst e1 e2
                    clear hend
                    go_wp2_with (fail)
                    go_quiet (fail)
                    go_wp2_with (fail)
                    go_roundw
                    case rel => exact ⟨j + 1, by omega, by go_num, hmore, below_drewN hbelj _⟩
                    case measure => simp [intOf]; omega
                · replace hmore := hmore (fun q => e2 q.2.1)
                  subst e1
                  have e2' : (t' == t) = false := by simp [e2]
                  clear hend e2
                  go_wp2_with (fail)
                  go_quiet (fail)
                  go_wp2_with (fail)
                  go_roundw
                  case rel => exact ⟨j + 1, by omega, by go_num, hmore, below_drewN hbelj _⟩
                  case measure => simp [intOf]; omega
              · replace hmore := hmore (fun q => e1 q.1)
                have e1' := str_ne e1
                clear hend e1
                go_wp2_with (fail)
                go_quiet (fail)
                go_wp2_with (fail)
                go_roundw
                case rel => exact ⟨j + 1, by omega, by go_num, hmore, below_drewN hbelj _⟩
                case measure => simp [intOf]; omega
            · have hjk2 : j = k := by omega
              subst hjk2
              have hokk : Hid (∀ l, l < j + 1 → okAt its l) := fun l hl1 => by
                rcases Nat.lt_succ_iff_lt_or_eq.1 hl1 with e | e
                · exact hdone.out l e
                · rw [e]; exact hok.out.2 ⟨hb, by have := hcn.out; omega, hcl2.out⟩
              clear hcj hx hno hall hdone hI2 hc2 h hok m0 m1 m2 m3 hbel2 hcl2 hb hcn
              go_wp2_with (fail)
              go_roundw
              case rel => exact ⟨j + 1, by omega, by go_num, hokk, hbelj⟩
              case measure => simp [intOf]; omega
        · have hr := hno.out k hlt (fun q => by have := (hok.out.1 q).2.1; have := hcn.out; omega)
          subst hr
          clear hno hall hok hdone hx hb hcn hc2 hI2
          go_wp2_with (fail)
          refine C2.mono ?_
          rintro z w3 ⟨rfl, rfl⟩
          go_wp2_with (fail)
          go_ret
          exact ⟨rfl, hbel2⟩
    · have hkn : k = n := by omega
      subst hkn
      by_cases e : (k : Int) ≤ 10
      · have hr : R = true := by rw [hall.out hdone]; exact decide_eq_true (by omega)
        subst hr
        clear hno hall hdone
        go_wp2_with (fail)
        go_ret
        exact ⟨rfl, hbel⟩
      · have hr : R = false := by rw [hall.out hdone]; exact decide_eq_false (by omega)
        subst hr
        clear hno hall hdone
        go_wp2_with (fail)
        go_ret
        exact ⟨rfl, hbel⟩


theorem implQueueOkW_any (p : Option Addr) (n c : Nat) (its : List ItA) (w : World) (hn : n ≤ 1048577) (hl : its.length = n) (h : ItemsIn w p n its) (hs : ∀ x ∈ its, x.s.size ≤ 1048576) :
    Calls Try.prog 23 #[.slice p n c] w fun e w' => e = .returned (.bool (qB its)) ∧ Below w.heap.size w w' := by
  by_cases h10 : n ≤ 10
  · exact implQueueOk_any p n c its w (by omega) hl h hs
  · have hr : qB its = false := qB_false fun q => h10 (by have := q.1; omega)
    rw [hr]
    have h11 : (10 : Int) < (n : Int) := by omega
    clear h hl hs hr h10
    go_enter Try.func23, Try.ntmps23
    go_wp2_with (fail)
    go_ret
    exact ⟨rfl, Below.refl _ _⟩

end Go.Proofs.Ytkdbcplcpcdnbaa

namespace Go.Proofs.Ytkdbcplcpcdnbaa
open Go.RowKit
set_option maxRecDepth 100000

set_option maxHeartbeats 2000000 in
theorem copiedItem_own (s : ByteArray) (t d : Int) (p : Option Addr) (n c : Nat) (xs : List Int) (w : World) (hn : n ≤ 1048576) (hx : xs.length = n) (h : BytesIn w p n xs) :
    Calls Try.prog 51 #[.agg #[.string s, .int .i64 t, .int .i64 d, .slice p n c]] w fun z w' => ∃ p' c', z = .returned (.agg #[.string s, .int .i64 t, .int .i64 d, .slice p' n c']) ∧
      Own 5 w' w.heap.size w'.heap.size (.slice p' n c') n xs ∧ Below w.heap.size w w' := by
  have kA : ∀ o1 o2, Below w.heap.size w ((w.alloc o1).alloc o2) := fun o1 o2 => made_below _ _ (made_below _ _ (Below.refl _ _))
  have sz : ∀ (W : World) o, (W.alloc o).heap.size = W.heap.size + 1 := fun W o => by simp
  go_enter Try.func51, Try.ntmps51
  go_wp2_with (fail)
  refine (copied_any p n c xs _ hn hx (in_below h (kA _ _))).mono ?_
  rintro z w1 ⟨p1, c1, rfl, r1, b1⟩
  have C2 := (Cells.made w _ _).on (made_below _ _ b1)
  have C1 := (Cells.made (w.alloc _) _ _).on b1
  have k1 := made_below _ _ (made_below _ _ b1)
  rw [sz] at C1
  rw [sz, sz] at r1
  clear b1 kA sz
  have s1 : w1.cell? ⟨w.heap.size, 3, none⟩ = some (.slice p n c) := (C2.2 3).1
  have f1 := (C2.2 3).2
  obtain ⟨X1, hX1⟩ : ∃ X1, X1 = w1.setCell ⟨w.heap.size, 3, none⟩ (.slice p1 n c1) := ⟨_, rfl⟩
  have kX : Below w.heap.size w X1 := by rw [hX1]; exact k1.setCell (Nat.le_refl _) _
  replace C1 := C1.other (a := ⟨w.heap.size, 3, none⟩) (.slice p1 n c1) (by show w.heap.size + 1 ≠ w.heap.size; omega)
  replace C2 := C2.set 3 (by simp) (.slice p1 n c1)
  have rX := r1.set_below (a := ⟨w.heap.size, 3, none⟩) (by show w.heap.size < _; omega) (.slice p1 n c1)
  rw [← hX1] at C1 C2 rX
  have zX : X1.heap.size = w1.heap.size := by rw [hX1]; simp
  have m0 : X1.cell? ⟨w.heap.size, 0, none⟩ = some (.string s) := (C2.2 0).1
  have m1 : X1.cell? ⟨w.heap.size, 1, none⟩ = some (.int .i64 t) := (C2.2 1).1
  have m2 : X1.cell? ⟨w.heap.size, 2, none⟩ = some (.int .i64 d) := (C2.2 2).1
  have m3 : X1.cell? ⟨w.heap.size, 3, none⟩ = some (.slice p1 n c1) := (C2.2 3).1
  replace hX1 : Hid (w1.setCell ⟨w.heap.size, 3, none⟩ (.slice p1 n c1) = X1) := hX1.symm
  have n0 : X1.cell? ⟨w.heap.size + 1, 0, none⟩ = some (.string ByteArray.empty) := (C1.2 0).1
  have z0 := (C1.2 0).2
  have D1 := C1.set 0 (by simp) (.string s)
  have n1 : (X1.setCell ⟨w.heap.size + 1, 0, none⟩ (.string s)).cell? ⟨w.heap.size + 1, 1, none⟩ = some (.int .i64 0) := (D1.2 1).1
  have z1 := (D1.2 1).2
  have D2 := D1.set 1 (by simp) (.int .i64 t)
  have n2 : ((X1.setCell ⟨w.heap.size + 1, 0, none⟩ (.string s)).setCell ⟨w.heap.size + 1, 1, none⟩ (.int .i64 t)).cell? ⟨w.heap.size + 1, 2, none⟩ = some (.int .i64 0) := (D2.2 2).1
  have z2 := (D2.2 2).2
  have D3 := D2.set 2 (by simp) (.int .i64 d)
  have n3 : (((X1.setCell ⟨w.heap.size + 1, 0, none⟩ (.string s)).setCell ⟨w.heap.size + 1, 1, none⟩ (.int .i64 t)).setCell ⟨w.heap.size + 1, 2, none⟩ (.int .i64 d)).cell? ⟨w.heap.size + 1, 3, none⟩ = some (.slice none 0 0) := (D3.2 3).1
  have z3 := (D3.2 3).2
  have D4 := D3.set 3 (by simp) (.slice p1 n c1)
  obtain ⟨X3, hX3⟩ : ∃ X3, X3 = (((X1.setCell ⟨w.heap.size + 1, 0, none⟩ (.string s)).setCell ⟨w.heap.size + 1, 1, none⟩ (.int .i64 t)).setCell ⟨w.heap.size + 1, 2, none⟩ (.int .i64 d)).setCell ⟨w.heap.size + 1, 3, none⟩ (.slice p1 n c1) := ⟨_, rfl⟩
  have kZ : Below w.heap.size w X3 := by rw [hX3]; exact (((kX.setCell (by show w.heap.size ≤ w.heap.size + 1; omega) _).setCell (by show w.heap.size ≤ w.heap.size + 1; omega) _).setCell (by show w.heap.size ≤ w.heap.size + 1; omega) _).setCell (by show w.heap.size ≤ w.heap.size + 1; omega) _
  replace rX := (((rX.set_below (a := ⟨w.heap.size + 1, 0, none⟩) (by show w.heap.size + 1 < _; omega) (.string s)).set_below (a := ⟨w.heap.size + 1, 1, none⟩) (by show w.heap.size + 1 < _; omega) (.int .i64 t)).set_below (a := ⟨w.heap.size + 1, 2, none⟩) (by show w.heap.size + 1 < _; omega) (.int .i64 d)).set_below (a := ⟨w.heap.size + 1, 3, none⟩) (by show w.heap.size + 1 < _; omega) (.slice p1 n c1)
  rw [← hX3] at D4 rX
  have y0 : X3.cell? ⟨w.heap.size + 1, 0, none⟩ = some (.string s) := (D4.2 0).1
  have y1 : X3.cell? ⟨w.heap.size + 1, 1, none⟩ = some (.int .i64 t) := (D4.2 1).1
  have y2 : X3.cell? ⟨w.heap.size + 1, 2, none⟩ = some (.int .i64 d) := (D4.2 2).1
  have y3 : X3.cell? ⟨w.heap.size + 1, 3, none⟩ = some (.slice p1 n c1) := (D4.2 3).1
  have zz : w1.heap.size = X3.heap.size := by rw [hX3, ← zX]; simp
  replace hX3 : Hid ((((X1.setCell ⟨w.heap.size + 1, 0, none⟩ (.string s)).setCell ⟨w.heap.size + 1, 1, none⟩ (.int .i64 t)).setCell ⟨w.heap.size + 1, 2, none⟩ (.int .i64 d)).setCell ⟨w.heap.size + 1, 3, none⟩ (.slice p1 n c1) = X3) := hX3.symm
  replace zz : Hid (w1.heap.size = X3.heap.size) := zz
  clear zX k1 kX r1 D1 D2 D3 C1 C2
  go_wp2_with (first | rw [hX1.out] | rw [hX3.out])
  refine bodyPost_ret (v := .agg #[.string s, .int .i64 t, .int .i64 d, .slice p1 n c1]) ?_ rfl ⟨_, _, rfl, ?_, kZ⟩
  · simp only [results, Try.f51]
    go_simp
  · have e2 := zz.out
    rw [← e2]
    exact ⟨owns_mono rX.1 (by omega), rX.2⟩

set_option maxHeartbeats 4000000 in
theorem copiedItems_own (p : Option Addr) (n c : Nat) (its : List ItA) (w : World) (hn : n ≤ 1048577) (hl : its.length = n) (h : ItemsIn w p n its) (li : ∀ x ∈ its, x.Lies w) (fit : ∀ x ∈ its, x.n ≤ 1048576) :
    Calls Try.prog 46 #[.slice p n c] w fun e w' => ∃ p' c' its', e = .returned (.slice p' n c') ∧ OwnItems w' w.heap.size w'.heap.size (.slice p' n c') n its' ∧ Hid (its'.map ItA.con = its.map ItA.con) ∧ Below w.heap.size w w' := by
  obtain ⟨i0, hi, hz0, hz1, hz2⟩ := info_parts infoItem
  go_enter Try.func46, Try.ntmps46
  go_wp2_with (at_make; refine wpList_make_full _ rfl _ _ 24 rfl w.heap.size 26 i0 _ 4 Try.underlying24 hi hz0 hz1 _ _ _ _ n rfl rfl rfl rfl ?b2 ?b3 ?b4 ?_)
  case b2 => rw [hz2]; omega
  case b3 => unfold maxLen; omega
  case b4 => exact Nat.le_refl _
  intro w1 hown hgrow
  rw [made_items n] at hown
  have hbel : Below w.heap.size w w1 := (Below.refl _ _).grown hgrow (Nat.le_refl _) (fun _ h => by cases h)
  have hO := noItems _ _ _ _ _ hown
  clear hgrow hown
  obtain ⟨g, hg⟩ : ∃ g, g = w.heap.size := ⟨_, rfl⟩
  have hgw : g < w1.heap.size := hO.top g (by rw [hg]; rfl)
  rw [← hg] at hO hbel ⊢
  replace hg : Hid (g = w.heap.size) := hg
  go_wp2_with (fail)
  go_loopw [11] (fun i wr => ∃ k : Nat, k ≤ n ∧ i = .int .i64 k ∧ (∃ done : List ItA, done.length = k ∧ Hid (done.map ItA.con = (its.take k).map ItA.con) ∧ OwnItems wr g wr.heap.size (.slice (some ⟨g, 0, none⟩) n n) n (done ++ List.replicate (n - k) default)) ∧ Below g w wr)
    (fun i _ => n - (intOf i).toNat)
  case atStart => exact ⟨0, Nat.zero_le _, rfl, ⟨[], rfl, rfl, hO⟩, hbel⟩
  case round =>
    clear hO hbel hgw
    obtain ⟨k, hk, rfl, ⟨done, hdl, hdc, hO⟩, hbel⟩ := hrel
    have hgw : g < wr.heap.size := hO.top g rfl
    rw [hg.out] at hbel
    by_cases hlt : k < n
    · obtain ⟨b, o, rfl, hc⟩ := itemsIn_on h hbel (by omega)
      obtain ⟨x, hx⟩ : ∃ x, its.getD k default = x := ⟨_, rfl⟩
      obtain ⟨l0, l1, l2, l3⟩ := ItemsIn.at hc hlt hx
      have hxm : x ∈ its := hx ▸ getD_mem (by omega)
      have lx := (li x hxm).on hbel
      have hnx := fit x hxm
      replace hdc : Hid (done.map ItA.con ++ [x.con] = (its.take (k + 1)).map ItA.con) := by
        rw [Hid, take_getD (by omega), hx, List.map_append, hdc.out]; rfl
      obtain ⟨s, t, d, xp, xn, xc, xs⟩ := x
      dsimp only at l0 l1 l2 l3 hnx
      obtain ⟨_, lx1, lx2⟩ := lx
      dsimp only at lx1 lx2
      obtain ⟨w5, hw5⟩ : ∃ w5, w5 = wr.alloc (.cells #[.string s, .int .i64 t, .int .i64 d, .slice xp xn xc] 26) := ⟨_, rfl⟩
      have b5 : Below wr.heap.size wr w5 := by rw [hw5]; exact made_below _ _ (Below.refl _ _)
      have C5 : Cells w5 wr.heap.size #[.string s, .int .i64 t, .int .i64 d, .slice xp xn xc] := by rw [hw5]; exact Cells.made _ _ _
      have m0 : w5.cell? ⟨wr.heap.size, 0, none⟩ = some (.string s) := (C5.2 0).1
      have m1 : w5.cell? ⟨wr.heap.size, 1, none⟩ = some (.int .i64 t) := (C5.2 1).1
      have m2 : w5.cell? ⟨wr.heap.size, 2, none⟩ = some (.int .i64 d) := (C5.2 2).1
      have m3 : w5.cell? ⟨wr.heap.size, 3, none⟩ = some (.slice xp xn xc) := (C5.2 3).1
      have z5 := b5.size
      have hO5 := hO.on b5
      have hbel5 := below_on hbel b5
      have lx5 := in_below lx2 b5
      replace hw5 : Hid (wr.alloc (.cells #[.string s, .int .i64 t, .int .i64 d, .slice xp xn xc] 26) = w5) := hw5.symm
      clear hx hxm hc h li fit hO hbel C5 b5 lx2
      go_wp2_with (rw [hw5.out])
      refine (copiedItem_own s t d xp xn xc xs _ hnx lx1 lx5).mono ?_
      rintro z w2 ⟨p2, c2, rfl, r2, b2⟩
      have hgo := hg.out
      have hO2 := (hO5.on b2).wide (lo' := g) (hi' := w2.heap.size) (Nat.le_refl _) (by have := b2.size; omega)
      have hbel2 := below_on hbel5 b2
      obtain ⟨⟨u0, c0⟩, ⟨u1, c1⟩, ⟨u2, c2'⟩, ⟨u3, c3⟩, f0, f1, f2, f3⟩ := store_item ⟨s, t, d, p2, xn, c2, xs⟩ hO2.row hlt hO2.len
      dsimp only at c0 c1 c2' c3 f0 f1 f2 f3
      have hO3 := hO2.set (k := k) (x := ⟨s, t, d, p2, xn, c2, xs⟩) hlt (r2.wide (by omega) (Nat.le_refl _)) (.inr fun e => by have := (r2.1.lt _ e).1; omega) (fun y hy => by
        rcases hB : y.slice.ownBlock with _ | j
        · exact .inl rfl
        · right
          intro e
          have h1 := (hO5.bytes y hy).2 j hB
          have h2 := (r2.1.lt j e.symm).1
          omega)
      have hset : (done ++ List.replicate (n - k) (default : ItA)).set k ⟨s, t, d, p2, xn, c2, xs⟩ = (done ++ [⟨s, t, d, p2, xn, c2, xs⟩]) ++ List.replicate (n - (k + 1)) default := by
        rw [List.set_append_right _ _ (by omega), hdl, Nat.sub_self, show n - k = (n - (k + 1)) + 1 by omega, List.replicate_succ]
        simp
      rw [hset] at hO3
      have hbel3 : Below w.heap.size w (setItem w2 g k ⟨s, t, d, p2, xn, c2, xs⟩) := hbel2.grown (setItem_grown _ _ _ _) hbel2.size (fun j hj => by cases hj; omega)
      have hsz : (setItem w2 g k ⟨s, t, d, p2, xn, c2, xs⟩).heap.size = w2.heap.size := by simp [setItem]
      rw [← hsz] at hO3
      obtain ⟨X, hX⟩ : ∃ X, X = setItem w2 g k ⟨s, t, d, p2, xn, c2, xs⟩ := ⟨_, rfl⟩
      rw [← hX] at hO3 hbel3
      replace hX : Hid ((((w2.setCell ⟨g, k * 4, none⟩ (.string s)).setCell ⟨g, k * 4 + 1, none⟩ (.int .i64 t)).setCell ⟨g, k * 4 + 2, none⟩ (.int .i64 d)).setCell ⟨g, k * 4 + 3, none⟩ (.slice p2 xn c2) = X) := hX.symm
      have hnew : Hid ((done ++ [(⟨s, t, d, p2, xn, c2, xs⟩ : ItA)]).map ItA.con = (its.take (k + 1)).map ItA.con) := by
        rw [Hid, List.map_append, ← hdc.out]; rfl
      rw [← hg.out] at hbel3
      clear hgo hset hsz hO2 hO5 hbel5 hbel2 b2 r2 hdc
      go_wp2_with (rw [hX.out])
      go_roundw
      case rel => exact ⟨k + 1, by omega, by go_num, ⟨_, by simp [hdl], hnew, hO3⟩, hbel3⟩
      case measure => simp [intOf]; omega
    · have hkn : k = n := by omega
      subst hkn
      rw [Nat.sub_self] at hO
      have hO' : OwnItems wr g wr.heap.size (.slice (some ⟨g, 0, none⟩) k k) k done := by simpa using hO
      have hall : Hid (done.map ItA.con = its.map ItA.con) := by rw [Hid, hdc.out, ← hl, List.take_length]
      clear hO hdc
      rw [← hg.out] at hbel
      go_wp2_with (fail)
      go_ret
      rw [← hg.out]
      exact ⟨_, _, done, rfl, hO', hall, hbel⟩

end Go.Proofs.Ytkdbcplcpcdnbaa
