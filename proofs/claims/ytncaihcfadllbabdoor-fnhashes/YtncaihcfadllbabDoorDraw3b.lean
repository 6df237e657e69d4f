/-
  What the laws' draw of a state and a block makes of any code: at most eight ints and at most 1000 bytes of their own. Condition: the code is of bytes, at most 2^20.
-/
import Derived.Test.YtncaihcfadllbabDoorDraw3
import Derived.Test.YtncaihcfadllbabDoorDraw2
import Derived.Test.YtncaihcfadllbabDoorStart
namespace Go.Proofs.YtncaihcfadllbabDoor
open Go.RowKit

theorem capI {w : World} {base e : Nat} {p : Option Addr} {n c : Nat} {xs : List Value} (h : w.ownsRow base e 1 (.slice p n c) n xs) : n ≤ c := by
  rcases h.2 with ⟨hv, h0⟩ | ⟨g, cap, cur, hv, _, _, hnc, _⟩
  · omega
  · simp only [Value.slice.injEq] at hv
    obtain ⟨_, _, rfl⟩ := hv
    exact hnc
theorem OwnI.cur {e : Nat} {w w' : World} {a lo hi : Nat} {v : Value} {n : Nat} {xs : List Int} (h : OwnI e w lo hi v n xs) (hg : w.grownBy w' (some a)) (ha : a < lo) : OwnI e w' lo hi v n xs := ⟨owns_cur h.1 hg ha, h.2⟩
theorem OwnI.put {e : Nat} {w : World} {lo hi g n c : Nat} {xs : List Int} (h : OwnI e w lo hi (.slice (some ⟨g, 0, none⟩) n c) n xs) (j : Nat) (z : Int) : OwnI e (w.setCell ⟨g, j, none⟩ (.int .i64 z)) lo hi (.slice (some ⟨g, 0, none⟩) n c) n (xs.set j z) ∧ w.grownBy (w.setCell ⟨g, j, none⟩ (.int .i64 z)) (some g) := by
  have st := h.1.stored j (.int .i64 z)
  rw [← List.map_set] at st
  exact ⟨⟨st.1, h.2⟩, st.2⟩
theorem Cur.far {w w' : World} {a g : Nat} {p : Option Addr} {n c : Nat} {xs : List Int} (h : Cur w a p n c xs) (hg : w.grownBy w' (some g)) (ha : a < g) (hp : ∀ b o, p = some ⟨b, o, none⟩ → 0 < n → b < g) (hgs : g < w.heap.size) : Cur w' a p n c xs :=
  h.below (B := g) ⟨hg.os, hg.tape, hg.output, hg.size, fun k hk => hg.block k (by omega) (by simp; omega)⟩ ha hp

set_option maxHeartbeats 4000000 in
theorem drawHashBlock_any (p : Option Addr) (n c : Nat) (xs : List Int) (w : World) (hn : n ≤ 1048576) (hx : xs.length = n) (hb : BytesIn w p n xs) (hr : ∀ x ∈ xs, 0 ≤ x ∧ x < 256) :
    Calls Tryd.prog 9 #[.slice p n c] w fun e w' => ∃ g1 k1 c1 ys g2 k2 c2 zs, e = .returned (.tuple #[.slice (some ⟨g1, 0, none⟩) k1 c1, .slice (some ⟨g2, 0, none⟩) k2 c2]) ∧ k1 ≤ 8 ∧ k2 ≤ 1000 ∧ ys.length = k1 ∧ IntsIn w' (some ⟨g1, 0, none⟩) k1 ys ∧ Own 5 w' w.heap.size w'.heap.size (.slice (some ⟨g2, 0, none⟩) k2 c2) k2 zs ∧ (∀ y ∈ zs, 0 ≤ y ∧ y < 256) ∧ Below w.heap.size w w' := by
  go_enter Tryd.func9, Tryd.ntmps9
  go_wp2_with (fail)
  refine (l1New_any p n c xs _ hn hx hb hr).mono ?_
  rintro e w1 ⟨a, rfl, ha, ha1, hc1, b1⟩
  have hcl := hc1.code_lt
  go_wp2_with (fail)
  refine (specStart_any _).mono ?_
  rintro e w2 ⟨p2, c2, rfl, r2, b2⟩
  have hc2 := hc1.below b2 ha1 hcl
  have bel2 := below_on b1 b2
  obtain ⟨g1, rfl⟩ := owns_at r2.1 (by omega)
  have hg1 := (r2.1.lt g1 rfl).1
  have hcap : 8 ≤ c2 := capI r2.1
  clear b2 b1
  go_wp2_with (fail)
  refine (l1Once_any a p n c xs 4 _ (by omega) (by omega) hc2).mono ?_
  rintro e w3 ⟨o1, rfl, hc3, g3⟩
  have r3 := r2.cur g3 ha1
  have bel3 := below_cur bel2 g3 ha
  clear r2 hc2 g3 bel2
  cases o1
  · go_wp2_with (fail)
    refine (l1Once_any a p n c xs 12 _ (by omega) (by omega) hc3).mono ?_
    rintro e w5 ⟨o2, rfl, hc5, g5⟩
    have r5 := r3.cur g5 ha1
    have bel5 := below_cur bel3 g5 ha
    cases o2
    · go_wp2_with (fail)
      refine (l1DrawNear64 a p n c xs _ hc5).mono ?_
      rintro e w8 ⟨g, k, c', zs, rfl, hk, o8, hzs, hc8, g8⟩
      have r8 := r5.cur g8 ha1
      go_wp2_with (fail)
      go_ret2
      exact ⟨g1, 8, c2, _, g, k, c', zs, rfl, by omega, hk, r8.len, r8.ints, o8.mono bel5.size (Nat.le_refl _), hzs, below_cur bel5 g8 ha⟩
    · go_wp2_with (fail)
      refine (l1DrawNear64 a p n c xs _ hc5).mono ?_
      rintro e w8 ⟨g, k, c', zs, rfl, hk, o8, hzs, hc8, g8⟩
      have r8 := r5.cur g8 ha1
      have hl8 := r8.len
      go_wp2_with (fail)
      go_ret2
      refine ⟨g1, 7, c2, List.take 7 startL, g, k, c', zs, rfl, by omega, hk, by rw [List.length_take, hl8]; rfl, ?_, o8.mono bel5.size (Nat.le_refl _), hzs, below_cur bel5 g8 ha⟩
      intro _
      obtain ⟨bb, oo, e1, e2⟩ := r8.ints (by omega)
      refine ⟨bb, oo, e1, fun i hi => ?_⟩
      rw [e2 i (by omega)]
      simp [List.getD, hi]
  · go_wp2_with (fail)
    refine (l1Below_any a p n c xs 8 _ (by omega) (by omega) hc3).mono ?_
    rintro e w4 ⟨j, rfl, hj0, hj1, hc4, g4⟩
    obtain ⟨j, rfl⟩ : ∃ i : Nat, j = (i : Int) := ⟨j.toNat, by omega⟩
    have r4 := r3.cur g4 ha1
    have bel4 := below_cur bel3 g4 ha
    go_wp2_with (fail)
    refine (l2DrawNum_any a p n c xs _ hc4).mono ?_
    rintro e w6 ⟨z, rfl, hc6, g6⟩
    have r6 := r4.cur g6 ha1
    have bel6 := below_cur bel4 g6 ha
    have hl6 := r6.len
    have hold : w6.cell? ⟨g1, j, none⟩ = some (.int .i64 (startL.getD j 0)) := by
      obtain ⟨bb, oo, e1, e2⟩ := r6.ints (by omega)
      simp only [Option.some.injEq, Addr.mk.injEq, and_true] at e1
      obtain ⟨rfl, rfl⟩ := e1
      have := e2 j (by omega)
      rwa [Nat.zero_add] at this
    have hfr := r6.1.frozenAt j
    have hgs := (r6.1.lt g1 rfl).2
    have st := r6.put j z
    have hc7 := hc6.far st.2 (by omega) (fun b o e hp => by have := hcl b o e hp; omega) hgs
    have bel7 : Below w.heap.size w (w6.setCell ⟨g1, j, none⟩ (.int .i64 z)) := bel6.grown st.2 bel6.size (fun k hk => by cases hk; omega)
    have r7 := st.1
    generalize startL.getD j 0 = old at hold
    clear st hc3 hc4 hc6 g4 g6 r3 r4 r6 bel3 bel4 bel6
    go_wp2_with (fail)
    refine (l1Once_any a p n c xs 12 _ (by omega) (by omega) hc7).mono ?_
    rintro e w5 ⟨o2, rfl, hc5, g5⟩
    have r5 := r7.cur g5 ha1
    have bel5 := below_cur bel7 g5 ha
    cases o2
    · go_wp2_with (fail)
      refine (l1DrawNear64 a p n c xs _ hc5).mono ?_
      rintro e w8 ⟨g, k, c', zs, rfl, hk, o8, hzs, hc8, g8⟩
      have r8 := r5.cur g8 ha1
      go_wp2_with (fail)
      go_ret2
      exact ⟨g1, 8, c2, _, g, k, c', zs, rfl, by omega, hk, r8.len, r8.ints, o8.mono bel5.size (Nat.le_refl _), hzs, below_cur bel5 g8 ha⟩
    · go_wp2_with (fail)
      refine (l1DrawNear64 a p n c xs _ hc5).mono ?_
      rintro e w8 ⟨g, k, c', zs, rfl, hk, o8, hzs, hc8, g8⟩
      have r8 := r5.cur g8 ha1
      have hl8 := r8.len
      go_wp2_with (fail)
      go_ret2
      refine ⟨g1, 7, c2, List.take 7 (startL.set j z), g, k, c', zs, rfl, by omega, hk, by rw [List.length_take, hl8]; rfl, ?_, o8.mono bel5.size (Nat.le_refl _), hzs, below_cur bel5 g8 ha⟩
      intro _
      obtain ⟨bb, oo, e1, e2⟩ := r8.ints (by omega)
      refine ⟨bb, oo, e1, fun i hi => ?_⟩
      rw [e2 i (by omega)]
      simp [List.getD, hi]

end Go.Proofs.YtncaihcfadllbabDoor
