/-
  What the draws of the field's laws answer: some bytes, most often 32 of them; an int.
-/
import Derived.Test.YtghoibggmddkmacDrawAll
import Derived.Test.YtghoibggmddkmacFieldNumS
namespace Go.Proofs.Ytghoibggmddkmac
open Go.RowKit

/-- A row of k bytes, of the call's own. -/
def SomeB (lo g k c' : Nat) (w : World) : Prop := ∃ ys : List Int, (∀ y ∈ ys, 0 ≤ y ∧ y < 256) ∧ w.ownsRow lo 5 1 (.slice (some ⟨g, 0, none⟩) k c') k (ys.map (Value.int .u8))
theorem SomeB.len {lo g k c' : Nat} {w : World} {ys : List Int} (h : w.ownsRow lo 5 1 (.slice (some ⟨g, 0, none⟩) k c') k (ys.map (Value.int .u8))) : ys.length = k := by have := h.1; simpa using this
theorem SomeB.cell {lo g k c' : Nat} {w : World} (h : SomeB lo g k c' w) {j : Nat} (hj : j < k) : (∃ v : Int, w.cell? ⟨g, j, none⟩ = some (.int .u8 v)) ∧ w.frozen? ⟨g, j, none⟩ = false := by
  obtain ⟨ys, _, ho⟩ := h
  have hl := SomeB.len ho
  refine ⟨⟨ys[j]'(by omega), ?_⟩, ho.frozenAt j⟩
  rw [ho.cellAt j (by omega), List.getElem?_map, List.getElem?_eq_getElem (by omega)]
  rfl
theorem SomeB.set {lo g k c' : Nat} {w : World} (h : SomeB lo g k c' w) (j : Nat) (v : Int) (h0 : 0 ≤ v) (h1 : v < 256) : SomeB lo g k c' (w.setCell ⟨g, j, none⟩ (.int .u8 v)) ∧ lo ≤ g := by
  obtain ⟨ys, hb, ho⟩ := h
  have st := ho.stored j (.int .u8 v)
  refine ⟨⟨ys.set j v, ?_, ?_⟩, (ho.lt g rfl).1⟩
  · intro y hy
    rcases List.mem_or_eq_of_mem_set hy with h | h
    · exact hb y h
    · subst h; exact ⟨h0, h1⟩
  · have := st.1
    rwa [← List.map_set] at this
theorem SomeB.cur {lo g k c' a : Nat} {w w' : World} (h : SomeB lo g k c' w) (hg : w.grownBy w' (some a)) (ha : a < lo) : SomeB lo g k c' w' := by
  obtain ⟨ys, hb, ho⟩ := h
  exact ⟨ys, hb, owns_cur ho hg ha⟩
theorem SomeB.on {lo g k c' : Nat} {w w' : World} (h : SomeB lo g k c' w) (hb : Below w.heap.size w w') : SomeB lo g k c' w' := by
  obtain ⟨ys, hb', ho⟩ := h
  exact ⟨ys, hb', owns_below ho hb⟩

set_option maxRecDepth 100000 in
set_option maxHeartbeats 8000000 in
theorem l8DrawSide_any (a : Nat) (p : Option Addr) (n c : Nat) (xs : List Int) (w : World) (hcur : Cur w a p n c xs) :
    Calls Try.prog 42 #[.pointer (some ⟨a, 0, none⟩)] w fun e w' => ∃ g k c', e = .returned (.slice (some ⟨g, 0, none⟩) k c') ∧ k ≤ 1000 ∧ SomeB w.heap.size g k c' w' ∧ Cur w' a p n c xs ∧ w.grownBy w' (some a) := by
  have ha := hcur.lt
  have hcl := hcur.code_lt
  have C32 := l1DrawNear_any a p n c xs 32 w (by omega) (by omega) hcur
  go_enter Try.func42, Try.ntmps42
  go_wp2_with (fail)
  refine C32.mono ?_
  rintro e w1 ⟨g, k, ck, ys, rfl, hk, o1, hys, hc1, g1⟩
  have s1 : SomeB w.heap.size g k ck w1 := ⟨ys, hys, o1.1⟩
  clear C32 o1 hys
  go_wp2_with (fail)
  refine (l1Below_any a p n c xs 5 _ (by omega) (by omega) hc1).mono ?_
  rintro e w2 ⟨x, rfl, hx0, hx1, hc2, g2⟩
  replace s1 := s1.cur g2 ha
  replace g2 := grown_trans g1 g2
  clear g1 hc1
  have z2 := g2.size
  by_cases h0 : x = 0
  · subst h0
    clear s1
    go_wp2_with (fail)
    refine (l1Below_any a p n c xs 30 _ (by omega) (by omega) hc2).mono ?_
    rintro e w3 ⟨v, rfl, hv0, hv1, hc3, g3⟩
    have CN := specFieldNum_any v w3 (by omega)
    go_wp2_with (fail)
    refine CN.mono ?_
    rintro e w4 ⟨p4, c4, rfl, o4, b4⟩
    obtain ⟨g4, hg4⟩ := owns_at o4.1 (by decide)
    subst hg4
    have g5 := grown_trans g2 g3
    have z3 := g5.size
    have b5 : Below w.heap.size w3 w4 := b4.mono z3
    go_wp2_with (fail)
    go_ret
    exact ⟨g4, 32, c4, rfl, by omega, ⟨_, numB_byte _, owns_mono o4.1 z3⟩, hc3.below b5 ha hcl, grown_below g5 b5⟩
  · by_cases h1 : x = 1
    · subst h1
      have hk' : (k : Int) ≤ 1000 := by omega
      go_wp2_with (fail)
      go_loopw [4] (fun i wr => ∃ j : Nat, j ≤ k ∧ i = .int .i64 j ∧ SomeB w.heap.size g k ck wr ∧ Below w.heap.size w2 wr)
        (fun i _ => k - (intOf i).toNat)
      case atStart => exact ⟨0, by omega, rfl, s1, Below.refl _ _⟩
      case round =>
        clear s1
        obtain ⟨j, hj, rfl, s3, b3⟩ := hrel
        by_cases hlt : j < k
        · have hlt' : (j : Int) < (k : Int) := by omega
          obtain ⟨⟨v, cv⟩, fv⟩ := s3.cell hlt
          have st := s3.set j 255 (by omega) (by omega)
          have b4 := b3.setCell (p := ⟨g, j, none⟩) st.2 (.int .u8 255)
          have s4 := st.1
          clear st s3 b3
          go_wp2_with (fail)
          go_roundw
          case rel => exact ⟨j + 1, by omega, by go_num, s4, b4⟩
          case measure => simp [intOf]; omega
        · obtain rfl : j = k := by omega
          have hno : ¬ (j : Int) < (j : Int) := by omega
          have hc3 := hc2.below b3 ha hcl
          have g3 := grown_below g2 b3
          clear hc2 g2 b3 z2
          by_cases hj0 : 0 < j
          · have hj0' : (0 : Int) < (j : Int) := by omega
            go_wp2_with (fail)
            refine (l1Below_any a p n c xs 26 _ (by omega) (by omega) hc3).mono ?_
            rintro e w4 ⟨v, rfl, hv0, hv1, hc4, g4⟩
            replace s3 := s3.cur g4 ha
            replace g4 := grown_trans g3 g4
            obtain ⟨u, hu⟩ : ∃ u, u = 230 + v := ⟨_, rfl⟩
            have eu : 230 + v = u := hu.symm
            have lu : 0 ≤ u ∧ u < 256 := by omega
            have mu : u % 256 = u := by omega
            obtain ⟨⟨v0, cv⟩, fv⟩ := s3.cell hj0
            have st := s3.set 0 u lu.1 lu.2
            have b5 := (Below.refl w.heap.size w4).setCell (p := ⟨g, 0, none⟩) st.2 (.int .u8 u)
            have s5 := st.1
            have hc5 := hc4.below b5 ha hcl
            have g5 := grown_below g4 b5
            clear st s3 hu hc3 g3 hc4 g4
            have hP : ∀ W : World, W = w4.setCell ⟨g, 0, none⟩ (.int .u8 u) → Calls Try.prog 56 #[.pointer (some ⟨a, 0, none⟩), .slice (some ⟨W.heap.size, 0, none⟩) 2 2] (W.alloc (.cells #[.int .i64 127, .int .i64 255] 3)) fun e w' => ∃ z ∈ [(127 : Int), 255], e = .returned (.int .i64 z) ∧ Cur w' a p n c xs ∧ (W.alloc (.cells #[.int .i64 127, .int .i64 255] 3)).grownBy w' (some a) := by
              intro W hW
              subst hW
              exact l1PickInt_any a p n c xs _ 2 [127, 255] _ (by omega) (by omega) rfl (lit_ints _ [127, 255] 3) (by have := hc5.lt; omega) (hc5.below ((Below.refl _ _).alloc (Nat.le_refl _) _) hc5.lt hc5.code_lt)
            obtain ⟨W, hW⟩ : ∃ W, W = w4.setCell ⟨g, 0, none⟩ (.int .u8 u) := ⟨_, rfl⟩
            have hPW := hP W hW
            clear hP
            rw [← hW] at s5 hc5 g5
            have bA : Below W.heap.size W (W.alloc (.cells #[.int .i64 127, .int .i64 255] 3)) := (Below.refl _ _).alloc (Nat.le_refl _) _
            have s6 := s5.on bA
            have g6 := grown_below g5 (bA.mono g5.size)
            obtain ⟨j1, hj1⟩ : ∃ j1 : Nat, j1 = j - 1 := ⟨_, rfl⟩
            have ej1 : (j : Int) - 1 = (j1 : Int) := by omega
            have lj1 : (j1 : Int) < (j : Int) := by omega
            have lj1' : j1 < j := by omega
            replace hW : Hid (w4.setCell ⟨g, 0, none⟩ (.int .u8 u) = W) := hW.symm
            clear hj1 b5 s5 g5 hc5 bA
            go_wp2_with (rw [hW.out])
            refine hPW.mono ?_
            rintro e w7 ⟨z, hz, rfl, hc7, g7⟩
            have s7 := s6.cur g7 ha
            have g8 := grown_trans g6 g7
            have lz : 0 ≤ z ∧ z < 256 := by
              simp only [List.mem_cons, List.not_mem_nil, or_false] at hz
              omega
            have mz : z % 256 = z := by omega
            obtain ⟨⟨v1, cv1⟩, fv1⟩ := s7.cell lj1'
            have st := s7.set j1 z lz.1 lz.2
            have b9 := (Below.refl w.heap.size w7).setCell (p := ⟨g, j1, none⟩) st.2 (.int .u8 z)
            have s9 := st.1
            have hc9 := hc7.below b9 ha hcl
            have g9 := grown_below g8 b9
            clear st s7 hz hc7 g7 g8 g6 s6 b9 hPW hW cv fv
            go_wp2_with (fail)
            go_ret
            exact ⟨g, j, ck, rfl, hk, s9, hc9, g9⟩
          · have hj0' : ¬ (0 : Int) < (j : Int) := by omega
            go_wp2_with (fail)
            go_ret
            exact ⟨g, j, ck, rfl, hk, s3, hc3, g3⟩
    · have d0 : (x == 0) = false := by simpa using h0
      have d1 : (x == 1) = false := by simpa using h1
      go_wp2_with (fail)
      go_ret
      exact ⟨g, k, ck, rfl, hk, s1, hc2, g2⟩

set_option maxRecDepth 100000 in
set_option maxHeartbeats 2000000 in
theorem dFieldMul (p : Option Addr) (n c : Nat) (xs : List Int) (w : World) (hn : n ≤ 1048576) (hx : xs.length = n) (hb : BytesIn w p n xs) (hr : ∀ x ∈ xs, 0 ≤ x ∧ x < 256) :
    Calls Try.prog 9 #[.slice p n c] w fun e w' => ∃ g k c' ys g2 k2 c2 zs, e = .returned (.tuple #[.slice (some ⟨g, 0, none⟩) k c', .slice (some ⟨g2, 0, none⟩) k2 c2]) ∧ (k ≤ 1000 ∧ k2 ≤ 1000 ∧ (∀ y ∈ ys, 0 ≤ y ∧ y < 256) ∧ ∀ y ∈ zs, 0 ≤ y ∧ y < 256) ∧ Own 5 w' w.heap.size w'.heap.size (.slice (some ⟨g, 0, none⟩) k c') k ys ∧ Own 5 w' w.heap.size w'.heap.size (.slice (some ⟨g2, 0, none⟩) k2 c2) k2 zs ∧ Below w.heap.size w w' := by
  go_enter Try.func9, Try.ntmps9
  go_wp2_with (fail)
  refine (l1New_any p n c xs _ hn hx hb hr).mono ?_
  rintro e w1 ⟨a, rfl, ha, ha1, hc1, b1⟩
  go_wp2_with (fail)
  refine (l8DrawSide_any a p n c xs _ hc1).mono ?_
  rintro e w2 ⟨g, k, c', rfl, hk, ⟨ys, hys, ho⟩, hc2, g2⟩
  have bel2 := below_cur b1 g2 ha
  go_wp2_with (fail)
  refine (l8DrawSide_any a p n c xs _ hc2).mono ?_
  rintro e w3 ⟨g', k', c2, rfl, hk', ⟨zs, hzs, ho'⟩, hc3, g3⟩
  have bel3 := below_cur bel2 g3 ha
  have oo := owns_cur ho g3 (by have := hc1.lt; omega)
  go_wp2_with (fail)
  go_ret2
  exact ⟨g, k, c', ys, g', k', c2, zs, rfl, ⟨hk, hk', hys, hzs⟩, .of (owns_mono oo b1.size), .of (owns_mono ho' bel2.size), bel3⟩

set_option maxRecDepth 100000 in
set_option maxHeartbeats 2000000 in
theorem dFieldAdd (p : Option Addr) (n c : Nat) (xs : List Int) (w : World) (hn : n ≤ 1048576) (hx : xs.length = n) (hb : BytesIn w p n xs) (hr : ∀ x ∈ xs, 0 ≤ x ∧ x < 256) :
    Calls Try.prog 10 #[.slice p n c] w fun e w' => ∃ g k c' ys g2 k2 c2 zs, e = .returned (.tuple #[.slice (some ⟨g, 0, none⟩) k c', .slice (some ⟨g2, 0, none⟩) k2 c2]) ∧ (k ≤ 1000 ∧ k2 ≤ 1000 ∧ (∀ y ∈ ys, 0 ≤ y ∧ y < 256) ∧ ∀ y ∈ zs, 0 ≤ y ∧ y < 256) ∧ Own 5 w' w.heap.size w'.heap.size (.slice (some ⟨g, 0, none⟩) k c') k ys ∧ Own 5 w' w.heap.size w'.heap.size (.slice (some ⟨g2, 0, none⟩) k2 c2) k2 zs ∧ Below w.heap.size w w' := by
  go_enter Try.func10, Try.ntmps10
  go_wp2_with (fail)
  refine (l1New_any p n c xs _ hn hx hb hr).mono ?_
  rintro e w1 ⟨a, rfl, ha, ha1, hc1, b1⟩
  go_wp2_with (fail)
  refine (l8DrawSide_any a p n c xs _ hc1).mono ?_
  rintro e w2 ⟨g, k, c', rfl, hk, ⟨ys, hys, ho⟩, hc2, g2⟩
  have bel2 := below_cur b1 g2 ha
  go_wp2_with (fail)
  refine (l8DrawSide_any a p n c xs _ hc2).mono ?_
  rintro e w3 ⟨g', k', c2, rfl, hk', ⟨zs, hzs, ho'⟩, hc3, g3⟩
  have bel3 := below_cur bel2 g3 ha
  have oo := owns_cur ho g3 (by have := hc1.lt; omega)
  go_wp2_with (fail)
  go_ret2
  exact ⟨g, k, c', ys, g', k', c2, zs, rfl, ⟨hk, hk', hys, hzs⟩, .of (owns_mono oo b1.size), .of (owns_mono ho' bel2.size), bel3⟩

set_option maxRecDepth 100000 in
set_option maxHeartbeats 2000000 in
theorem dFieldSub (p : Option Addr) (n c : Nat) (xs : List Int) (w : World) (hn : n ≤ 1048576) (hx : xs.length = n) (hb : BytesIn w p n xs) (hr : ∀ x ∈ xs, 0 ≤ x ∧ x < 256) :
    Calls Try.prog 11 #[.slice p n c] w fun e w' => ∃ g k c' ys g2 k2 c2 zs, e = .returned (.tuple #[.slice (some ⟨g, 0, none⟩) k c', .slice (some ⟨g2, 0, none⟩) k2 c2]) ∧ (k ≤ 1000 ∧ k2 ≤ 1000 ∧ (∀ y ∈ ys, 0 ≤ y ∧ y < 256) ∧ ∀ y ∈ zs, 0 ≤ y ∧ y < 256) ∧ Own 5 w' w.heap.size w'.heap.size (.slice (some ⟨g, 0, none⟩) k c') k ys ∧ Own 5 w' w.heap.size w'.heap.size (.slice (some ⟨g2, 0, none⟩) k2 c2) k2 zs ∧ Below w.heap.size w w' := by
  go_enter Try.func11, Try.ntmps11
  go_wp2_with (fail)
  refine (l1New_any p n c xs _ hn hx hb hr).mono ?_
  rintro e w1 ⟨a, rfl, ha, ha1, hc1, b1⟩
  go_wp2_with (fail)
  refine (l8DrawSide_any a p n c xs _ hc1).mono ?_
  rintro e w2 ⟨g, k, c', rfl, hk, ⟨ys, hys, ho⟩, hc2, g2⟩
  have bel2 := below_cur b1 g2 ha
  go_wp2_with (fail)
  refine (l8DrawSide_any a p n c xs _ hc2).mono ?_
  rintro e w3 ⟨g', k', c2, rfl, hk', ⟨zs, hzs, ho'⟩, hc3, g3⟩
  have bel3 := below_cur bel2 g3 ha
  have oo := owns_cur ho g3 (by have := hc1.lt; omega)
  go_wp2_with (fail)
  go_ret2
  exact ⟨g, k, c', ys, g', k', c2, zs, rfl, ⟨hk, hk', hys, hzs⟩, .of (owns_mono oo b1.size), .of (owns_mono ho' bel2.size), bel3⟩

set_option maxRecDepth 100000 in
set_option maxHeartbeats 2000000 in
theorem dFieldInv (p : Option Addr) (n c : Nat) (xs : List Int) (w : World) (hn : n ≤ 1048576) (hx : xs.length = n) (hb : BytesIn w p n xs) (hr : ∀ x ∈ xs, 0 ≤ x ∧ x < 256) :
    Calls Try.prog 20 #[.slice p n c] w fun e w' => ∃ g k c' ys, e = .returned (.slice (some ⟨g, 0, none⟩) k c') ∧ (k ≤ 1000 ∧ ∀ y ∈ ys, 0 ≤ y ∧ y < 256) ∧ Own 5 w' w.heap.size w'.heap.size (.slice (some ⟨g, 0, none⟩) k c') k ys ∧ Below w.heap.size w w' := by
  go_enter Try.func20, Try.ntmps20
  go_wp2_with (fail)
  refine (l1New_any p n c xs _ hn hx hb hr).mono ?_
  rintro e w1 ⟨a, rfl, ha, ha1, hc1, b1⟩
  go_wp2_with (fail)
  refine (l8DrawSide_any a p n c xs _ hc1).mono ?_
  rintro e w2 ⟨g, k, c', rfl, hk, ⟨ys, hys, ho⟩, hc2, g2⟩
  have bel2 := below_cur b1 g2 ha
  go_wp2_with (fail)
  go_ret
  exact ⟨g, k, c', ys, rfl, ⟨hk, hys⟩, .of (owns_mono ho b1.size), bel2⟩

set_option maxRecDepth 100000 in
set_option maxHeartbeats 2000000 in
theorem dFieldOf (p : Option Addr) (n c : Nat) (xs : List Int) (w : World) (hn : n ≤ 1048576) (hx : xs.length = n) (hb : BytesIn w p n xs) (hr : ∀ x ∈ xs, 0 ≤ x ∧ x < 256) :
    Calls Try.prog 22 #[.slice p n c] w fun e w' => ∃ g k c' ys, e = .returned (.slice (some ⟨g, 0, none⟩) k c') ∧ (k ≤ 1000 ∧ ∀ y ∈ ys, 0 ≤ y ∧ y < 256) ∧ Own 5 w' w.heap.size w'.heap.size (.slice (some ⟨g, 0, none⟩) k c') k ys ∧ Below w.heap.size w w' := by
  go_enter Try.func22, Try.ntmps22
  go_wp2_with (fail)
  refine (l1New_any p n c xs _ hn hx hb hr).mono ?_
  rintro e w1 ⟨a, rfl, ha, ha1, hc1, b1⟩
  go_wp2_with (fail)
  refine (l8DrawSide_any a p n c xs _ hc1).mono ?_
  rintro e w2 ⟨g, k, c', rfl, hk, ⟨ys, hys, ho⟩, hc2, g2⟩
  have bel2 := below_cur b1 g2 ha
  go_wp2_with (fail)
  go_ret
  exact ⟨g, k, c', ys, rfl, ⟨hk, hys⟩, .of (owns_mono ho b1.size), bel2⟩

set_option maxRecDepth 100000 in
set_option maxHeartbeats 2000000 in
theorem dFieldNum (p : Option Addr) (n c : Nat) (xs : List Int) (w : World) (hn : n ≤ 1048576) (hx : xs.length = n) (hb : BytesIn w p n xs) (hr : ∀ x ∈ xs, 0 ≤ x ∧ x < 256) :
    Calls Try.prog 23 #[.slice p n c] w fun e w' => ∃ z : Int, e = .returned (.int .i64 z) ∧ z ≤ 9223372036854775807 ∧ Below w.heap.size w w' := by
  go_enter Try.func23, Try.ntmps23
  go_wp2_with (fail)
  refine (l1New_any p n c xs _ hn hx hb hr).mono ?_
  rintro e w1 ⟨a, rfl, ha, ha1, hc1, b1⟩
  have hb0 : Below w1.heap.size w1 (w1.alloc (.cells #[.int .i64 0, .int .i64 1, .int .i64 19, .int .i64 121665, .int .i64 9223372036854775807, .int .i64 (-1)] 3)) := (Below.refl _ _).alloc (Nat.le_refl _) _
  go_wp2_with (fail)
  refine (l1PickInt_any a p n c xs w1.heap.size 6 [0, 1, 19, 121665, 9223372036854775807, -1] _ (by omega) (by omega) rfl (lit_ints w1 [0, 1, 19, 121665, 9223372036854775807, -1] 3) (by omega) (hc1.below hb0 ha1 hc1.code_lt)).mono ?_
  rintro e w2 ⟨z, hz, rfl, hc2, g2⟩
  have lz : z ≤ 9223372036854775807 := by
    simp only [List.mem_cons, List.not_mem_nil, or_false] at hz
    omega
  have bel2 := below_cur (below_on b1 hb0) g2 ha
  go_wp2_with (fail)
  go_ret
  exact ⟨z, rfl, lz, bel2⟩

end Go.Proofs.Ytghoibggmddkmac
