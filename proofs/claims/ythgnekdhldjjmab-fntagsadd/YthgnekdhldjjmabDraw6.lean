/-
  What the draws of a tag's law answer: a key of 32 bytes or so, and some bytes.
-/
import Derived.Test.YthgnekdhldjjmabDraw3
namespace Go.Proofs.Ythgnekdhldjjmab
open Go.RowKit

theorem l1Max_zero (K : Nat) (w : World) : Calls Try.prog 30 #[.int .i64 (K : Int), .int .i64 0] w fun e w' => e = .returned (.int .i64 (K : Int)) ∧ w' = w := by
  by_cases h : (0 : Int) < (K : Int)
  · go_enter Try.func30, Try.ntmps30
    go_wp2
    go_ret
    exact ⟨rfl, rfl⟩
  · obtain rfl : K = 0 := by omega
    go_enter Try.func30, Try.ntmps30
    go_wp2
    go_ret
    exact ⟨rfl, rfl⟩

set_option maxHeartbeats 2000000 in
theorem l1DrawNear_any (a : Nat) (p : Option Addr) (n c : Nat) (xs : List Int) (K : Nat) (w : World) (hK1 : 1 ≤ K) (hK2 : K ≤ 500) (hcur : Cur w a p n c xs) :
    Calls Try.prog 11 #[.pointer (some ⟨a, 0, none⟩), .int .i64 (K : Int)] w fun e w' => ∃ g k c' ys, e = .returned (.slice (some ⟨g, 0, none⟩) k c') ∧ k ≤ 1000 ∧ Own 5 w' w.heap.size w'.heap.size (.slice (some ⟨g, 0, none⟩) k c') k ys ∧ (∀ y ∈ ys, 0 ≤ y ∧ y < 256) ∧ Cur w' a p n c xs ∧ w.grownBy w' (some a) := by
  obtain ⟨U, hU⟩ : ∃ U : Nat, U = K + 1 := ⟨_, rfl⟩
  obtain ⟨D, hD⟩ : ∃ D : Nat, D = K - 1 := ⟨_, rfl⟩
  have eU : (K : Int) + 1 = (U : Int) := by omega
  have eD : (K : Int) - 1 = (D : Int) := by omega
  have CU := fun w h => l1DrawJust_any a p n c xs U w (by omega) h
  have CD := fun w h => l1DrawJust_any a p n c xs D w (by omega) h
  have CK := fun w h => l1DrawJust_any a p n c xs K w (by omega) h
  clear hU hD
  go_enter Try.func11, Try.ntmps11
  go_wp2_with (fail)
  refine (l1Below_any a p n c xs 16 _ (by omega) (by omega) hcur).mono ?_
  rintro e w1 ⟨x, rfl, hx0, hx1, hc1, g1⟩
  by_cases h0 : x = 0
  · subst h0
    go_wp2_with (fail)
    refine (CU _ hc1).mono ?_
    rintro e w2 ⟨g, k, c', ys, rfl, hk, o2, hys, hc2, g2⟩
    go_wp2_with (fail)
    go_ret
    exact ⟨g, k, c', ys, rfl, hk, o2.mono g1.size (Nat.le_refl _), hys, hc2, grown_trans g1 g2⟩
  · by_cases h1 : x = 1
    · subst h1
      go_wp2_with (fail)
      refine (l1Max_zero D _).mono ?_
      rintro e w1 ⟨rfl, rfl⟩
      go_wp2_with (fail)
      refine (CD _ hc1).mono ?_
      rintro e w2 ⟨g, k, c', ys, rfl, hk, o2, hys, hc2, g2⟩
      go_wp2_with (fail)
      go_ret
      exact ⟨g, k, c', ys, rfl, hk, o2.mono g1.size (Nat.le_refl _), hys, hc2, grown_trans g1 g2⟩
    · by_cases h2 : x = 2
      · subst h2
        go_wp2
        go_ret
        exact ⟨_, 0, _, [], rfl, by omega, .of (World.ownsRow_made w1 #[] 0 g1.size (by unfold maxLen; omega) rfl), (fun y hy => by cases hy), hc1.below ((Below.refl w1.heap.size w1).alloc (Nat.le_refl _) _) hc1.lt hc1.code_lt, grown_trans g1 (World.grownBy_alloc w1 _ _)⟩
      · have d0 : (x == 0) = false := by simpa using h0
        have d1 : (x == 1) = false := by simpa using h1
        have d2 : (x == 2) = false := by simpa using h2
        go_wp2_with (fail)
        refine (CK _ hc1).mono ?_
        rintro e w2 ⟨g, k, c', ys, rfl, hk, o2, hys, hc2, g2⟩
        go_wp2_with (fail)
        go_ret
        exact ⟨g, k, c', ys, rfl, hk, o2.mono g1.size (Nat.le_refl _), hys, hc2, grown_trans g1 g2⟩

/-- The first k all 255, the others nought. -/
def fulls (k : Nat) : List Int := List.replicate k 255 ++ List.replicate (32 - k) 0
theorem fulls_set (k : Nat) (h : k < 32) : ((fulls k).map (Value.int .u8)).set k (.int .u8 255) = (fulls (k + 1)).map (Value.int .u8) := by
  rw [← List.map_set]
  congr 1
  unfold fulls
  rw [List.set_append_right _ _ (by simp), List.length_replicate, Nat.sub_self, show 32 - k = (32 - (k + 1)) + 1 by omega, List.replicate_succ, List.set_cons_zero, List.replicate_succ', List.append_assoc]
  rfl
theorem fulls_get (k : Nat) (h : k < 32) : ((fulls k).map (Value.int .u8))[k]? = some (.int .u8 0) := by
  unfold fulls
  rw [List.map_append, List.getElem?_append_right (by simp)]
  simp [show 0 < 32 - k by omega]
theorem fulls_byte (k : Nat) : ∀ y ∈ fulls k, 0 ≤ y ∧ y < 256 := by
  intro y hy
  simp only [fulls, List.mem_append, List.mem_replicate] at hy
  omega

set_option maxRecDepth 100000 in
set_option maxHeartbeats 2000000 in
theorem drawTag_any (p : Option Addr) (n c : Nat) (xs : List Int) (w : World) (hn : n ≤ 1048576) (hx : xs.length = n) (hb : BytesIn w p n xs) (hr : ∀ x ∈ xs, 0 ≤ x ∧ x < 256) :
    Calls Try.prog 6 #[.slice p n c] w fun e w' => ∃ g1 k1 c1 ys g2 k2 c2 zs, e = .returned (.tuple #[.slice (some ⟨g1, 0, none⟩) k1 c1, .slice (some ⟨g2, 0, none⟩) k2 c2]) ∧ k1 ≤ 1000 ∧ k2 ≤ 255 ∧ Own 5 w' w.heap.size w'.heap.size (.slice (some ⟨g1, 0, none⟩) k1 c1) k1 ys ∧ Own 5 w' w.heap.size w'.heap.size (.slice (some ⟨g2, 0, none⟩) k2 c2) k2 zs ∧ (∀ y ∈ ys, 0 ≤ y ∧ y < 256) ∧ (∀ y ∈ zs, 0 ≤ y ∧ y < 256) ∧ Below w.heap.size w w' := by
  obtain ⟨i0, hi, hz0, hz1, hz2⟩ := info_parts infoByte
  go_enter Try.func6, Try.ntmps6
  go_wp2_with (fail)
  refine (l1New_any p n c xs _ hn hx hb hr).mono ?_
  rintro e w1 ⟨a, rfl, ha, ha1, hc1, b1⟩
  have C32 := l1DrawNear_any a p n c xs 32 w1 (by omega) (by omega) hc1
  go_wp2_with (fail)
  refine C32.mono ?_
  rintro e w2 ⟨g, k, ck, ys, rfl, hk, o2, hys, hc2, g2⟩
  have bel2 := below_cur b1 g2 ha
  have ha2 : a < w2.heap.size := hc2.lt
  clear C32
  go_wp2_with (fail)
  refine (l1Once_any a p n c xs 6 _ (by omega) (by omega) hc2).mono ?_
  rintro e w3 ⟨t, rfl, hc3, gg3⟩
  have o2' := o2.cur gg3 ha1
  have bel3 := below_cur bel2 gg3 ha
  have hs1 := b1.size
  have hs2 := bel2.size
  have hs3 := bel3.size
  cases t with
  | true =>
    go_wp2_with (at_make; refine wpList_make_full _ rfl _ _ 22 rfl w.heap.size 5 i0 (.int .u8 0) 1 Try.underlying22 hi hz0 hz1 _ _ _ _ 32 rfl rfl rfl rfl (by rw [hz2]; omega) (by unfold maxLen; omega) hs3 ?_)
    intro w4 hown hgrow
    have b4 : Below w3.heap.size w3 w4 := (Below.refl _ _).grown hgrow (Nat.le_refl _) (fun _ h => by cases h)
    have hk0 : w4.ownsRow w.heap.size 5 1 (.slice (some ⟨w3.heap.size, 0, none⟩) 32 32) 32 ((fulls 0).map (Value.int .u8)) := by
      rw [show (fulls 0).map (Value.int .u8) = (madeCells #[Value.int .u8 0] 32).toList from (zeros_made 32).symm]
      exact hown
    have o4 := Own.of (owns_mono (owns_below o2'.1 b4) hs1)
    have hgl := (o2'.1.lt g rfl).2
    have bel4 := below_on bel3 b4
    obtain ⟨gz, hgz⟩ : ∃ gz, gz = w3.heap.size := ⟨_, rfl⟩
    rw [← hgz] at hk0 hgl ⊢
    have hne : gz ≠ g := by omega
    have hgw : w.heap.size ≤ gz := by omega
    clear hown hgrow b4 hgz
    go_wp2_with (fail)
    go_loopw [7] (fun i wr => ∃ j : Nat, j ≤ 32 ∧ i = .int .i64 j ∧ wr.ownsRow w.heap.size 5 1 (.slice (some ⟨gz, 0, none⟩) 32 32) 32 ((fulls j).map (Value.int .u8)) ∧ w4.grownBy wr (some gz))
      (fun i _ => 32 - (intOf i).toNat)
    case atStart => exact ⟨0, by omega, rfl, hk0, World.grownBy.refl _ _⟩
    case round =>
      clear hk0
      obtain ⟨j, hj, rfl, hown, hgr⟩ := hrel
      by_cases hlt : j < 32
      · have hlt' : (j : Int) < 32 := by omega
        have e1 : wr.cell? ⟨gz, j, none⟩ = some (.int .u8 0) := by rw [hown.cellAt j (by omega), fulls_get j hlt]
        have hfr := hown.frozenAt j
        have st := hown.stored j (.int .u8 255)
        rw [fulls_set j hlt] at st
        have st' := st.1
        have hgr' := grown_trans hgr st.2
        clear st hown hgr
        go_wp2_with (fail)
        go_roundw
        case rel => exact ⟨j + 1, by omega, by go_num, st', hgr'⟩
        case measure => simp [intOf]; omega
      · obtain rfl : j = 32 := by omega
        have o5 := Own.of (o4.1.kept hgr (.inr (by simp [Value.ownBlock]; exact fun e => hne e.symm)))
        have bel5 := bel4.grown hgr bel4.size (fun k hk => by cases hk; exact hgw)
        go_wp2_with (fail)
        go_ret2
        exact ⟨_, _, _, _, _, _, _, _, rfl, hk, by omega, o5, .of hown, hys, fulls_byte 32, bel5⟩
  | false =>
    go_wp2_with (fail)
    refine (l1DrawBytes_any a p n c xs 60 _ (by omega) (by omega) hc3).mono ?_
    rintro e w4 ⟨g4, k4, c4, zs, rfl, hk4, o4, hzs, hc4, gg4⟩
    have o2'' := o2'.cur gg4 ha1
    have bel4 := below_cur bel3 gg4 ha
    go_wp2_with (fail)
    go_ret2
    exact ⟨_, _, _, _, _, _, _, _, rfl, hk, by omega, Own.of (owns_mono o2''.1 hs1), Own.of (owns_mono o4.1 hs3), hys, hzs, bel4⟩

end Go.Proofs.Ythgnekdhldjjmab
