/-
  Whether a row of a shelf is right: the closure that asks for a topic, the library's search, rowOk. Conditions: a row that lies there.
-/
import Derived.Test.YtggbmpgpopenoaaShelf
import Derived.Test.YtggbmpgpopenoaaItemsEq
namespace Go.Proofs.Ytggbmpgpopenoaa
open Go.RowKit
set_option maxRecDepth 100000

/-- The placed items l lie in a slice of n elements at p, with room for c. -/
def PlIn (w : World) (p : Option Addr) (n c : Nat) (l : List PIt) : Prop :=
  n ≤ c ∧ c ≤ 9223372036854775807 ∧ (0 < n → ∃ b o, p = some ⟨b, o, none⟩ ∧ ∀ i j v, i < n → (l.getD i default).vals[j]? = some v → w.cell? ⟨b, o + i * 5 + j, none⟩ = some v)
theorem plIn_on {w w' : World} {p : Option Addr} {n c : Nat} {l : List PIt} (h : PlIn w p n c l) (hb : Below w.heap.size w w') : PlIn w' p n c l := by
  refine ⟨h.1, h.2.1, fun hn => ?_⟩
  obtain ⟨b, o, rfl, hc⟩ := h.2.2 hn
  refine ⟨b, o, rfl, fun i j v hi hv => ?_⟩
  have hlt : b < w.heap.size := World.block_lt_of_cell? w ⟨b, o + i * 5 + j, none⟩ (hc i j v hi hv)
  rw [hb.cell (p := ⟨b, o + i * 5 + j, none⟩) hlt]
  exact hc i j v hi hv
theorem plIn_own {w : World} {lo e : Nat} {p : Option Addr} {n c : Nat} {l : List PIt} (h : w.ownsRow lo e 5 (.slice p n c) n (flatP l)) (hl : l.length = n) : PlIn w p n c l := by
  rcases h.2 with ⟨hv, h0⟩ | ⟨g, cap, cur, hv, _, _, hnc, hcm, _⟩
  · simp only [Value.slice.injEq] at hv
    obtain ⟨rfl, rfl, rfl⟩ := hv
    exact ⟨by omega, by omega, fun hn => by omega⟩
  · simp only [Value.slice.injEq] at hv
    obtain ⟨rfl, _, rfl⟩ := hv
    refine ⟨hnc, by unfold maxLen at hcm; omega, fun hn => ⟨g, 0, rfl, fun i j v hi hv => ?_⟩⟩
    have hj : j < 5 := (List.getElem?_eq_some_iff.1 hv).1
    rw [Nat.zero_add, h.cellAt (i * 5 + j) (by omega), flatP_at l i j hj (by omega)]
    exact hv
theorem PlIn.at {w : World} {b o n : Nat} {l : List PIt} (h : ∀ i j v, i < n → (l.getD i default).vals[j]? = some v → w.cell? ⟨b, o + i * 5 + j, none⟩ = some v) {k : Nat} (hk : k < n) {z : PIt} (hz : l.getD k default = z) :
    w.cell? ⟨b, o + k * 5, none⟩ = some (.int .i64 z.k) ∧ w.cell? ⟨b, o + k * 5 + 1, none⟩ = some (.string z.x.s) ∧ w.cell? ⟨b, o + k * 5 + 2, none⟩ = some (.int .i64 z.x.t) ∧ w.cell? ⟨b, o + k * 5 + 3, none⟩ = some (.int .i64 z.x.d) ∧ w.cell? ⟨b, o + k * 5 + 4, none⟩ = some (.slice z.x.p z.x.n z.x.c) := by
  subst hz
  exact ⟨h k 0 _ hk rfl, h k 1 _ hk rfl, h k 2 _ hk rfl, h k 3 _ hk rfl, h k 4 _ hk rfl⟩

/-- Whether one of them has that topic. -/
def hasT (t : Int) (l : List PIt) : Bool := l.any (fun z => decide (z.x.t = t))
theorem hasT_step (t : Int) (l : List PIt) (k : Nat) (h : k < l.length) : hasT t (l.take (k + 1)) = (hasT t (l.take k) || decide ((l.getD k default).x.t = t)) := by
  rw [take_getD h]
  simp [hasT]

theorem rowOk1_any (k : Int) (s : ByteArray) (t d : Int) (p : Option Addr) (n c : Nat) (PB : Nat) (t0 : Int) (w : World) (h : w.cell? ⟨PB, 2, none⟩ = some (.int .i64 t0)) :
    Calls Try.prog 80 #[.agg #[.int .i64 k, .string s, .int .i64 t, .int .i64 d, .slice p n c], .pointer (some ⟨PB, 0, none⟩)] w fun e w' => e = .returned (.bool (decide (t = t0))) ∧ Below w.heap.size w w' := by
  have kA : ∀ o, Below w.heap.size w (w.alloc o) := fun o => made_below _ _ (Below.refl _ _)
  have h' : ∀ o, (w.alloc o).cell? ⟨PB, 2, none⟩ = some (.int .i64 t0) := fun o => ((kA o).cell (World.block_lt_of_cell? w _ h)).trans h
  go_enter Try.func80, Try.ntmps80
  go_wp2_with (fail)
  go_ret
  exact ⟨rfl, kA _⟩


/-- row[:i]. -/
theorem slice_row (b o m cc h : Nat) (hc : h ≤ cc) (W : World) : (Instr.slice 77 (.slice (some ⟨b, o, none⟩) m cc) none (some (.int .i64 (h : Int))) none).run Try.prog W = .ok (.slice (some ⟨b, o, none⟩) h cc) W := by
  have ht' : Try.prog.underlying 77 = some (.slice (Try.prog.elem 77)) := by simp [Program.elem, Try.underlying77]
  have he : Try.prog.elem 77 = 96 := by simp [Program.elem, Try.underlying77]
  rw [run_slice_h W 77 _ _ _ ht' .i64 h (by omega) (by omega), he]
  simp [sliced, Addr.add]

set_option maxHeartbeats 4000000 in
theorem indexFunc_any (p : Option Addr) (n c : Nat) (l : List PIt) (PB : Nat) (t0 : Int) (w : World) (hn : n ≤ 1048577) (hl : n ≤ l.length) (h : PlIn w p n c l) (hp : w.cell? ⟨PB, 2, none⟩ = some (.int .i64 t0)) :
    Calls Try.prog 85 #[.slice p n c, .func (.func 80) #[] #[.pointer (some ⟨PB, 0, none⟩)]] w fun e w' => ∃ r : Int, e = .returned (.int .i64 r) ∧ Hid (decide (0 ≤ r) = hasT t0 (l.take n)) ∧ Below w.heap.size w w' := by
  go_enter Try.func85, Try.ntmps85
  go_wp2_with (fail)
  go_loopw [8] (fun i wr => ∃ k : Nat, k ≤ n ∧ i = .int .i64 k ∧ Hid (hasT t0 (l.take k) = false) ∧ Below w.heap.size w wr) (fun i _ => n - (intOf i).toNat)
  case atStart => exact ⟨0, Nat.zero_le _, rfl, rfl, Below.refl _ _⟩
  case round =>
    obtain ⟨k, hk, rfl, hno, hbel⟩ := hrel
    by_cases hlt : k < n
    · obtain ⟨b, o, rfl, hc⟩ := (plIn_on h hbel).2.2 (by omega)
      obtain ⟨z, hz⟩ : ∃ z, l.getD k default = z := ⟨_, rfl⟩
      obtain ⟨l0, l1, l2, l3, l4⟩ := PlIn.at hc hlt hz
      have hst := hasT_step t0 l k (by omega)
      rw [hno.out, hz, Bool.false_or] at hst
      have hin : Hid (z.x.t = t0 → hasT t0 (l.take n) = true) := fun e => by
        refine List.any_eq_true.2 ⟨z, ?_, by simp [e]⟩
        rw [← hz, List.getD_eq_getElem?_getD, List.getElem?_eq_getElem (show k < l.length by omega)]
        exact List.mem_take_iff_getElem.2 ⟨k, by omega, rfl⟩
      obtain ⟨pk, ⟨s, t, d, xp, xn, xc, xs⟩⟩ := z
      dsimp only at l0 l1 l2 l3 l4 hst hin
      have C := rowOk1_any pk s t d xp xn xc PB t0 wr ((hbel.cell (World.block_lt_of_cell? w _ hp)).trans hp)
      clear hc h hz hno
      by_cases e : t = t0
      · have hyes := hin.out e
        rw [decide_eq_true e] at C
        clear hst hin e
        go_wp2_with (fail)
        refine C.mono ?_
        rintro y w2 ⟨rfl, b2⟩
        have hbel2 := below_on hbel b2
        clear hbel b2 C
        go_wp2_with (fail)
        go_ret
        exact ⟨k, rfl, by rw [Hid, hyes]; exact decide_eq_true (by omega), hbel2⟩
      · rw [decide_eq_false e] at C hst
        replace hst : Hid (hasT t0 (l.take (k + 1)) = false) := hst
        clear hin e
        go_wp2_with (fail)
        refine C.mono ?_
        rintro y w2 ⟨rfl, b2⟩
        have hbel2 := below_on hbel b2
        clear hbel b2 C
        go_wp2_with (fail)
        go_roundw
        case rel => exact ⟨k + 1, by omega, by go_num, hst, hbel2⟩
        case measure => simp [intOf]; omega
    · have hkn : k = n := by omega
      subst hkn
      have hno' := hno.out
      clear hno
      go_wp2_with (fail)
      go_ret
      exact ⟨-1, rfl, by rw [Hid, hno']; rfl, hbel⟩

theorem containsFunc_any (p : Option Addr) (n c : Nat) (l : List PIt) (PB : Nat) (t0 : Int) (w : World) (hn : n ≤ 1048577) (hl : n ≤ l.length) (h : PlIn w p n c l) (hp : w.cell? ⟨PB, 2, none⟩ = some (.int .i64 t0)) :
    Calls Try.prog 81 #[.slice p n c, .func (.func 80) #[] #[.pointer (some ⟨PB, 0, none⟩)]] w fun e w' => e = .returned (.bool (hasT t0 (l.take n))) ∧ Below w.heap.size w w' := by
  have C := indexFunc_any p n c l PB t0 w hn hl h hp
  generalize hasT t0 (l.take n) = R at C ⊢
  go_enter Try.func81, Try.ntmps81
  go_wp2_with (fail)
  refine C.mono ?_
  rintro y w2 ⟨r, rfl, hr, b2⟩
  have hr' := hr.out
  clear hr C
  go_wp2_with (fail)
  go_ret
  exact ⟨rfl, b2⟩


/-- What a right row is. -/
def RwOk (r : List PIt) : Prop := r.length ≤ 4 ∧ ∀ i, i < r.length → (r.getD i default).x.t ≠ 0 → hasT (r.getD i default).x.t (r.take i) = false
noncomputable def rwB (r : List PIt) : Bool := @decide (RwOk r) (Classical.propDecidable _)
theorem rwB_true {r : List PIt} (h : RwOk r) : rwB r = true := by unfold rwB; exact @decide_eq_true _ (Classical.propDecidable _) h
theorem rwB_false {r : List PIt} (h : ¬ RwOk r) : rwB r = false := by unfold rwB; exact @decide_eq_false _ (Classical.propDecidable _) h

set_option maxHeartbeats 4000000 in
theorem rowOk_any (p : Option Addr) (n c : Nat) (l : List PIt) (w : World) (hn : n ≤ 1048577) (hl : l.length = n) (h : PlIn w p n c l) :
    Calls Try.prog 57 #[.slice p n c] w fun e w' => e = .returned (.bool (rwB l)) ∧ Below w.heap.size w w' := by
  obtain ⟨R, hR⟩ : ∃ R : Bool, R = rwB l := ⟨_, rfl⟩
  rw [← hR]
  by_cases h4 : (n : Int) ≤ 4
  · have hno : Hid (∀ i, i < n → (l.getD i default).x.t ≠ 0 → hasT (l.getD i default).x.t (l.take i) = true → R = false) := fun i hi h0 h1 => by
      rw [hR]
      exact rwB_false fun q => by have := q.2 i (by omega) h0; rw [this] at h1; cases h1
    have hall : Hid ((∀ i, i < n → (l.getD i default).x.t ≠ 0 → hasT (l.getD i default).x.t (l.take i) = false) → R = true) := fun ha => by
      rw [hR]
      exact rwB_true ⟨by omega, fun i hi => ha i (by omega)⟩
    clear hR
    go_enter Try.func57, Try.ntmps57
    go_wp2_with (fail)
    go_loopw [11] (fun i wr => ∃ k : Nat, k ≤ n ∧ i = .int .i64 k ∧ Hid (∀ j, j < k → (l.getD j default).x.t ≠ 0 → hasT (l.getD j default).x.t (l.take j) = false) ∧ Below w.heap.size w wr) (fun i _ => n - (intOf i).toNat)
    case atStart => exact ⟨0, Nat.zero_le _, rfl, fun j hj => absurd hj (Nat.not_lt_zero _), Below.refl _ _⟩
    case round =>
      obtain ⟨k, hk, rfl, hdone, hbel⟩ := hrel
      by_cases hlt : k < n
      · have hP := plIn_on h hbel
        obtain ⟨b, o, rfl, hc⟩ := hP.2.2 (by omega)
        obtain ⟨z, hz⟩ : ∃ z, l.getD k default = z := ⟨_, rfl⟩
        obtain ⟨l0, l1, l2, l3, l4⟩ := PlIn.at hc hlt hz
        have hnk := hno.out k hlt
        rw [hz] at hnk
        have hmore : Hid ((z.x.t ≠ 0 → hasT z.x.t (l.take k) = false) → ∀ j, j < k + 1 → (l.getD j default).x.t ≠ 0 → hasT (l.getD j default).x.t (l.take j) = false) := fun q j hj => by
          rcases Nat.lt_succ_iff_lt_or_eq.1 hj with e | e
          · exact hdone.out j e
          · subst e; rw [hz]; exact q
        obtain ⟨pk, ⟨s, t, d, xp, xn, xc, xs⟩⟩ := z
        dsimp only at l0 l1 l2 l3 l4 hnk hmore
        obtain ⟨w3, hw3⟩ : ∃ w3, w3 = wr.alloc (.cells #[.int .i64 pk, .string s, .int .i64 t, .int .i64 d, .slice xp xn xc] 96) := ⟨_, rfl⟩
        have b3 : Below wr.heap.size wr w3 := by rw [hw3]; exact made_below _ _ (Below.refl _ _)
        have C3 : Cells w3 wr.heap.size #[.int .i64 pk, .string s, .int .i64 t, .int .i64 d, .slice xp xn xc] := by rw [hw3]; exact Cells.made _ _ _
        have m2 : w3.cell? ⟨wr.heap.size, 2, none⟩ = some (.int .i64 t) := (C3.2 2).1
        have hb3 := below_on hbel b3
        have hsl := slice_row b o n c k (by have := h.1; omega) w3
        have hP3 := plIn_on hP b3
        have hPk : PlIn w3 (some ⟨b, o, none⟩) k c l := ⟨by have := hP3.1; omega, hP3.2.1, fun hk0 => by
          obtain ⟨b', o', e, hc'⟩ := hP3.2.2 (by omega)
          exact ⟨b', o', e, fun i j v hi hv => hc' i j v (by omega) hv⟩⟩
        have CC := containsFunc_any (some ⟨b, o, none⟩) k c l wr.heap.size t w3 (by omega) (by omega) hPk m2
        replace hw3 : Hid (wr.alloc (.cells #[.int .i64 pk, .string s, .int .i64 t, .int .i64 d, .slice xp xn xc] 96) = w3) := hw3.symm
        clear hc hP hP3 hPk h hz C3 b3 hbel hdone hno hall
        by_cases e0 : t = 0
        · subst e0
          replace hmore : Hid _ := hmore.out (fun q => absurd rfl q)
          clear hnk CC
          go_wp2_with (rw [hw3.out])
          go_roundw
          case rel => exact ⟨k + 1, by omega, by go_num, hmore, hb3⟩
          case measure => simp [intOf]; omega
        · have e0' : (t != 0) = true := by simp [e0]
          cases hh : hasT t (l.take k)
          · rw [hh] at CC
            replace hmore : Hid _ := hmore.out (fun _ => hh)
            clear hnk hh e0
            go_wp2_with (rw [hw3.out])
            refine CC.mono ?_
            rintro y w4 ⟨rfl, b4⟩
            have hb4 := below_on hb3 b4
            clear CC hb3 b4 hsl
            go_wp2_with (fail)
            go_roundw
            case rel => exact ⟨k + 1, by omega, by go_num, hmore, hb4⟩
            case measure => simp [intOf]; omega
          · rw [hh] at CC
            have hr := hnk e0 hh
            subst hr
            clear hnk hh e0 hmore
            go_wp2_with (rw [hw3.out])
            refine CC.mono ?_
            rintro y w4 ⟨rfl, b4⟩
            have hb4 := below_on hb3 b4
            clear CC hb3 b4 hsl
            go_wp2_with (fail)
            go_ret
            exact ⟨rfl, hb4⟩
      · have hkn : k = n := by omega
        subst hkn
        have hr := hall.out hdone
        subst hr
        clear hno hall hdone
        go_wp2_with (fail)
        go_ret
        exact ⟨rfl, hbel⟩
  · have hr : R = false := by rw [hR]; exact rwB_false fun q => h4 (by have := q.1; omega)
    subst hr
    clear hR
    go_enter Try.func57, Try.ntmps57
    go_wp2_with (fail)
    go_ret
    exact ⟨rfl, Below.refl _ _⟩

end Go.Proofs.Ytggbmpgpopenoaa
