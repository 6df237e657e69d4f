/-
  Whether a reader is right, and whether it read a letter, as the program tells it. Conditions: a reader that can be read.
-/
import Derived.Test.YtelfejgpphoifaaSpecReaderOk
import Derived.Test.YtelfejgpphoifaaTold16b
namespace Go.Proofs.Ytelfejgpphoifaa
open Go.RowKit
set_option maxRecDepth 100000

theorem Rows.part {w : World} {p : Option Addr} {n : Nat} {rs : List RwA} (h : Rows w p n rs) {k : Nat} (hk : k ≤ n) : Rows w p k (rs.take k) :=
  ⟨Nat.le_trans hk h.hn, by rw [List.length_take, h.len]; omega, fun h0 => by
    obtain ⟨b, o, e, hc⟩ := h.lie (by omega)
    refine ⟨b, o, e, fun i hi => ?_⟩
    rw [hc i (by omega), List.getD_eq_getElem?_getD, List.getD_eq_getElem?_getD, List.getElem?_take_of_lt hi], fun x hx => h.ok x (List.take_subset _ _ hx)⟩

/-- No two of them are alike. -/
def twoB (rs : List RwA) : Bool := decide (∀ i, i < rs.length → (rs.getD i default).xs ∉ (rs.take i).map RwA.xs)

set_option maxHeartbeats 4000000 in
theorem noTwoAlike_any (p : Option Addr) (n c : Nat) (rs : List RwA) (w : World) (hR : Rows w p n rs) (hc : n ≤ c) :
    Calls Try.prog 27 #[.slice p n c] w fun z w' => z = .returned (.bool (twoB rs)) ∧ Below w.heap.size w w' := by
  obtain ⟨R, hRR⟩ : ∃ R : Bool, R = twoB rs := ⟨_, rfl⟩
  rw [← hRR]
  have hat : Hid (∀ i, i < n → (rs.getD i default).xs ∈ (rs.take i).map RwA.xs → R = false) := fun i hi h => by rw [hRR]; exact decide_eq_false fun k => k i (by rw [hR.len]; exact hi) h
  have hall : Hid ((∀ i, i < n → (rs.getD i default).xs ∉ (rs.take i).map RwA.xs) → R = true) := fun h => by rw [hRR]; exact decide_eq_true fun i hi => h i (by rw [hR.len] at hi; exact hi)
  have hn := hR.hn
  clear hRR
  go_enter Try.func27, Try.ntmps27
  go_wp2_with (fail)
  go_loopw [7] (fun i wr => ∃ k : Nat, k ≤ n ∧ i = .int .i64 k ∧ Hid (∀ j, j < k → (rs.getD j default).xs ∉ (rs.take j).map RwA.xs) ∧ Below w.heap.size w wr) (fun i _ => n - (intOf i).toNat)
  case atStart => exact ⟨0, Nat.zero_le _, rfl, fun j hj => absurd hj (Nat.not_lt_zero _), Below.refl _ _⟩
  case round =>
    obtain ⟨k, hk, rfl, hdone, hbel⟩ := hrel
    by_cases hlt : k < n
    · obtain ⟨b, o, x, rfl, l0, hx, lx⟩ := (hR.on hbel).at hlt
      have CA := fun X (b1 : Below wr.heap.size wr X) => among_any (some ⟨b, o, none⟩) k c (rs.take k) x X (((hR.on hbel).part hk).on b1) (lx.on b1)
      have hmem : Hid (x.xs ∈ (rs.take k).map RwA.xs → R = false) := fun h => hat.out k hlt (by rw [hx]; exact h)
      have hst : Hid (x.xs ∉ (rs.take k).map RwA.xs → ∀ j, j < k + 1 → (rs.getD j default).xs ∉ (rs.take j).map RwA.xs) := fun h j hj => by
        rcases Nat.lt_succ_iff_lt_or_eq.1 hj with e | e
        · exact hdone.out j e
        · rw [e, hx]; exact h
      obtain ⟨xp, xn, xc, xs⟩ := x
      dsimp only at l0 hmem hst CA
      have hkc : k ≤ c := by omega
      have hkc2 : (k : Int) ≤ (c : Int) := by omega
      clear hx lx hdone hR
      by_cases hin : xs ∈ (rs.take k).map RwA.xs
      · have hr := hmem.out hin
        subst hr
        rw [show amongB (rs.take k) xs = true from decide_eq_true hin] at CA
        clear hmem hst hat hall hin
        go_wp2_with (fail)
        refine (CA _ (Below.refl _ _)).mono ?_
        rintro z w2 ⟨rfl, b2⟩
        have hbel2 := below_on hbel b2
        clear b2 hbel CA
        go_wp2_with (fail)
        go_ret
        exact ⟨rfl, hbel2⟩
      · have hs2 := hst.out hin
        replace hs2 : Hid (∀ j, j < k + 1 → (rs.getD j default).xs ∉ (rs.take j).map RwA.xs) := hs2
        rw [show amongB (rs.take k) xs = false from decide_eq_false hin] at CA
        clear hmem hst hin
        go_wp2_with (fail)
        refine (CA _ (Below.refl _ _)).mono ?_
        rintro z w2 ⟨rfl, b2⟩
        have hbel2 := below_on hbel b2
        clear b2 hbel CA
        go_wp2_with (fail)
        go_roundw
        case rel => exact ⟨k + 1, by omega, by go_num, hs2, hbel2⟩
        case measure => simp [intOf]; omega
    · have hkn : k = n := by omega
      subst hkn
      have hr := hall.out hdone.out
      subst hr
      clear hall hat hdone hR
      go_wp2_with (fail)
      go_ret
      exact ⟨rfl, hbel⟩

set_option maxHeartbeats 4000000 in
theorem implRead_any (x : RdA) (b : RwA) (w : World) (okx : x.Ok w) (okb : b.Ok w) :
    Calls Try.prog 19 #[.agg x.cells, .slice b.p b.n b.c] w fun z w' => z = .returned (.bool (amongB x.seen b.xs)) ∧ Below w.heap.size w w' := by
  obtain ⟨⟨sp, sn, sc, sx⟩, e, p, n, c, seen, q, m, d, got⟩ := x
  have E1 : RdA.cells ⟨⟨sp, sn, sc, sx⟩, e, p, n, c, seen, q, m, d, got⟩ = #[.slice sp sn sc, .int .i64 e, .slice p n c, .slice q m d] := rfl
  rw [E1]
  dsimp only
  have CA := fun X (b1 : Below w.heap.size w X) => among_any p n c seen b X (okx.seen.on b1) (okb.on b1)
  obtain ⟨bp, bn, bc, bx⟩ := b
  dsimp only at CA ⊢
  clear okx okb E1
  go_enter Try.func19, Try.ntmps19
  go_wp2_with (fail)
  refine (CA _ (made_below _ _ (Below.refl _ _))).mono ?_
  rintro z w2 ⟨rfl, b2⟩
  have b3 := made_below _ _ b2
  clear b2 CA
  go_wp2_with (fail)
  go_ret
  exact ⟨rfl, b3⟩

theorem rB_parts (x : RdA) (hs : x.seen.length = x.n) (hg : x.got.length = x.m) (h4 : x.m = x.n) (h1 : x.s.n = 32) (h2 : 0 ≤ x.e ∧ x.e ≤ 40) (h3 : x.n ≤ 20) :
    rB x = (noneB x.seen 1560 && noneB x.got 200 && twoB x.seen) := by
  have at1 : ∀ i (h : i < x.seen.length), x.seen.getD i default ∈ x.seen := fun i h => getD_memR h
  have at2 : ∀ i (h : i < x.got.length), x.got.getD i default ∈ x.got := fun i h => getD_memR h
  by_cases a : ∀ y ∈ x.seen, (y.n : Int) ≤ 1560
  · by_cases b : ∀ y ∈ x.got, (y.n : Int) ≤ 200
    · by_cases c : ∀ i, i < x.seen.length → (x.seen.getD i default).xs ∉ (x.seen.take i).map RwA.xs
      · rw [noneB, noneB, twoB, decide_eq_true a, decide_eq_true b, decide_eq_true c]
        exact rB_true ⟨h1, h2, h3, h4, fun i hi => ⟨a _ (at1 i (by omega)), b _ (at2 i (by omega)), c i (by omega)⟩⟩
      · rw [noneB, noneB, twoB, decide_eq_true a, decide_eq_true b, decide_eq_false c]
        exact rB_false fun k => c fun i hi => (k.2.2.2.2 i (by omega)).2.2
    · rw [noneB, noneB, decide_eq_true a, decide_eq_false b]
      refine rB_false fun k => b fun y hy => ?_
      obtain ⟨i, hi, rfl⟩ := List.getElem_of_mem hy
      have := (k.2.2.2.2 i (by omega)).2.1
      rwa [List.getD_eq_getElem?_getD, List.getElem?_eq_getElem hi] at this
  · rw [noneB, decide_eq_false a]
    refine rB_false fun k => a fun y hy => ?_
    obtain ⟨i, hi, rfl⟩ := List.getElem_of_mem hy
    have := (k.2.2.2.2 i (by omega)).1
    rwa [List.getD_eq_getElem?_getD, List.getElem?_eq_getElem hi] at this

set_option maxHeartbeats 8000000 in
theorem implReaderOk_any (x : RdA) (w : World) (ok : x.Ok w) (hc : x.n ≤ x.c) :
    Calls Try.prog 9 #[.agg x.cells] w fun z w' => z = .returned (.bool (rB x)) ∧ Below w.heap.size w w' := by
  have parts := rB_parts x ok.seen.len ok.got.len
  obtain ⟨⟨sp, sn, sc, sx⟩, e, p, n, c, seen, q, m, d, got⟩ := x
  have E1 : RdA.cells ⟨⟨sp, sn, sc, sx⟩, e, p, n, c, seen, q, m, d, got⟩ = #[.slice sp sn sc, .int .i64 e, .slice p n c, .slice q m d] := rfl
  rw [E1]
  obtain ⟨R, hR⟩ : ∃ R : Bool, R = rB ⟨⟨sp, sn, sc, sx⟩, e, p, n, c, seen, q, m, d, got⟩ := ⟨_, rfl⟩
  rw [← hR] at parts ⊢
  have hno : Hid (¬ (sn = 32 ∧ (0 ≤ e ∧ e ≤ 40) ∧ n ≤ 20 ∧ m = n) → R = false) := fun h => by rw [hR]; exact rB_false fun k => h ⟨k.1, k.2.1, k.2.2.1, k.2.2.2.1⟩
  have rows := ok.seen
  have rows2 := ok.got
  dsimp only at rows rows2 parts hc
  replace parts : Hid (m = n → sn = 32 → 0 ≤ e ∧ e ≤ 40 → n ≤ 20 → R = (noneB seen 1560 && noneB got 200 && twoB seen)) := parts
  have hn1 := rows.hn
  have hn2 := rows2.hn
  have CH := hasKeys_any sp sn sc e
  clear ok E1 hR
  have b0 : ∀ o, Below w.heap.size w (w.alloc o) := fun o => (Below.refl _ _).alloc (Nat.le_refl _) o
  by_cases h12 : sn = 32 ∧ 0 ≤ e ∧ e ≤ 40
  · rw [hasB_yes h12] at CH
    by_cases h3 : n ≤ 20
    · have h3' : ¬ (20 < (n : Int)) := by omega
      by_cases h4 : m = n
      · have hd : ((n : Int) != (n : Int)) = false := by simp
        have hpp := parts.out h4 h12.1 h12.2 h3
        subst h4
        have C1 := fun X (b : Below w.heap.size w X) => noneLonger_any p m c seen 1560 X (rows.on b)
        have C2 := fun X (b : Below w.heap.size w X) => noneLonger_any q m d got 200 X (rows2.on b)
        have C3 := fun X (b : Below w.heap.size w X) => noTwoAlike_any p m c seen X (rows.on b) hc
        clear parts hno rows rows2 h12
        cases ha : noneB seen 1560
        · rw [ha] at C1 hpp
          obtain rfl : R = false := hpp
          clear C2 C3 ha
          go_enter Try.func9, Try.ntmps9
          go_wp2_with (first | (go_at_call 25; refine (CH _).mono ?_; rintro z w2 ⟨rfl, rfl⟩) | (go_at_call 26; refine (C1 _ (b0 _)).mono ?_; rintro z w2 ⟨rfl, b2⟩; have b3 := made_below _ _ b2; clear b2 C1))
          go_ret
          exact ⟨rfl, b3⟩
        · rw [ha] at C1 hpp
          cases hb : noneB got 200
          · rw [hb] at C2 hpp
            obtain rfl : R = false := hpp
            clear C3 ha hb
            go_enter Try.func9, Try.ntmps9
            go_wp2_with (first | (go_at_call 25; refine (CH _).mono ?_; rintro z w2 ⟨rfl, rfl⟩))
            refine (C1 _ (b0 _)).mono ?_
            rintro z w2 ⟨rfl, b2⟩
            have D2 := (Cells.made w _ _).on b2
            have c3 : w2.cell? ⟨w.heap.size, 3, none⟩ = some (.slice q m d) := (D2.2 3).1
            have b3 := made_below _ _ b2
            clear b2 C1 D2
            go_wp2_with (fail)
            refine (C2 _ b3).mono ?_
            rintro z w3 ⟨rfl, b4⟩
            have b5 := below_on b3 b4
            clear b4 C2
            go_wp2_with (fail)
            go_ret
            exact ⟨rfl, b5⟩
          · rw [hb] at C2 hpp
            obtain rfl : R = twoB seen := hpp
            obtain ⟨tb, htb⟩ : ∃ tb, twoB seen = tb := ⟨_, rfl⟩
            rw [htb] at C3 ⊢
            clear ha hb htb
            go_enter Try.func9, Try.ntmps9
            go_wp2_with (first | (go_at_call 25; refine (CH _).mono ?_; rintro z w2 ⟨rfl, rfl⟩))
            refine (C1 _ (b0 _)).mono ?_
            rintro z w2 ⟨rfl, b2⟩
            have D2 := (Cells.made w _ _).on b2
            have c3 : w2.cell? ⟨w.heap.size, 3, none⟩ = some (.slice q m d) := (D2.2 3).1
            have b3 := made_below _ _ b2
            clear b2 C1
            go_wp2_with (fail)
            refine (C2 _ b3).mono ?_
            rintro z w3 ⟨rfl, b4⟩
            have D3 := D2.on b4
            have c2 : w3.cell? ⟨w.heap.size, 2, none⟩ = some (.slice p m c) := (D3.2 2).1
            have b5 := below_on b3 b4
            clear b4 C2 D2 c3
            go_wp2_with (fail)
            refine (C3 _ b5).mono ?_
            rintro z w4 ⟨rfl, b6⟩
            have b7 := below_on b5 b6
            clear b6 C3 D3 c2
            go_wp2_with (fail)
            go_ret
            exact ⟨rfl, b7⟩
      · have hd : ((m : Int) != (n : Int)) = true := by simp; omega
        have hr := hno.out fun k => h4 k.2.2.2
        subst hr
        clear hno parts h12 h4 rows rows2
        go_enter Try.func9, Try.ntmps9
        go_wp2_with (first | (go_at_call 25; refine (CH _).mono ?_; rintro z w2 ⟨rfl, rfl⟩))
        go_ret
        exact ⟨rfl, b0 _⟩
    · have h3' : 20 < (n : Int) := by omega
      have hr := hno.out fun k => h3 k.2.2.1
      subst hr
      clear hno parts h12 h3 rows rows2
      go_enter Try.func9, Try.ntmps9
      go_wp2_with (first | (go_at_call 25; refine (CH _).mono ?_; rintro z w2 ⟨rfl, rfl⟩))
      go_ret
      exact ⟨rfl, b0 _⟩
  · rw [hasB_no h12] at CH
    have hr := hno.out fun k => h12 ⟨k.1, k.2.1⟩
    subst hr
    clear hno parts h12 rows rows2
    go_enter Try.func9, Try.ntmps9
    go_wp2_with (first | (go_at_call 25; refine (CH _).mono ?_; rintro z w2 ⟨rfl, rfl⟩))
    go_ret
    exact ⟨rfl, b0 _⟩

end Go.Proofs.Ytelfejgpphoifaa
