/-
  What the program answers of a line that is read at a place. Conditions: bytes that lie there, as many as a law hands over; the library's variable is as its text says.
-/
import Derived.Test.YtelfejgpphoifaaDoorImplLineAt2
import Derived.Test.YtelfejgpphoifaaDoorErrAs2
namespace Go.Proofs.YtelfejgpphoifaaDoor
open Go.RowKit
set_option maxRecDepth 100000

theorem below_setB {b : Nat} {a w : World} {p : Addr} (h : Below b a w) (hp : b ≤ p.block) (v : Value) : Below b a (w.setCell p v) := h.setCell hp v
/-- The library's variable. -/
def ErrIs (w : World) : Prop := w.cell? ⟨0, 0, none⟩ = some (.iface 82 (.agg #[.pointer (some ⟨1, 40, none⟩)]))
theorem ErrIs.on {w w' : World} (h : ErrIs w) (b : Below w.heap.size w w') : ErrIs w' := (b.cell (p := ⟨0, 0, none⟩) (World.block_lt_of_cell? w _ h)).trans h
theorem lineAt_no (p : Option Addr) (n c : Nat) (bs : List Int) (at_ : Int) (w : World) (hn : n ≤ 1048576) (hx : bs.length = n) (h : BytesIn w p n bs) (hb : ∀ x ∈ bs, 0 ≤ x ∧ x < 256) (hc : n ≤ c) (ha : at_ ≤ 9223372036854775807) (hno : ¬ laOk bs at_) :
    Calls Tryd.prog 16 #[.slice p n c, .int .i64 at_] w fun e w' => e = .returned (.tuple #[.nilIface, .int .i64 0, .iface 44 (.agg #[.int .i64 at_])]) ∧ Below w.heap.size w w' := by
  by_cases h0 : at_ < 0 ∨ (n : Int) - at_ < 16
  · refine (lineAt_far p n c at_ w hn ha h0).mono ?_
    rintro e w' ⟨rfl, rfl⟩
    exact ⟨rfl, Below.refl _ _⟩
  · obtain ⟨a, rfl⟩ : ∃ a : Nat, at_ = (a : Int) := ⟨at_.toNat, by omega⟩
    obtain ⟨g, o, rfl, _⟩ := id h (by omega)
    by_cases h1 : a + 18 + laN bs a ≤ n
    · have hB : laB bs a = false := by
        cases e : laB bs a with
        | false => rfl
        | true => exact absurd ⟨by omega, by rw [Int.toNat_natCast, hx]; exact h1, by rw [Int.toNat_natCast]; exact e⟩ hno
      refine (lineAt_at g o n c bs a w hn hx h hb hc h1).mono ?_
      rintro e w' ⟨p', c', rfl, _, b⟩
      rw [hB, atV, if_neg (by decide)]
      exact ⟨rfl, b⟩
    · refine (lineAt_near g o n c bs a w hn hx h hb hc (by omega) h1).mono ?_
      rintro e w' ⟨rfl, rfl⟩
      exact ⟨rfl, Below.refl _ _⟩
theorem lineAt_yes (p : Option Addr) (n c : Nat) (bs : List Int) (a : Nat) (w : World) (hn : n ≤ 1048576) (hx : bs.length = n) (h : BytesIn w p n bs) (hb : ∀ x ∈ bs, 0 ≤ x ∧ x < 256) (hc : n ≤ c) (hok : laOk bs (a : Int)) :
    Calls Tryd.prog 16 #[.slice p n c, .int .i64 (a : Int)] w fun e w' => ∃ p' c', e = .returned (.tuple #[kindV (laK bs a) (laS bs a) (laT bs a) (laD bs a) p' (laN bs a) c', .int .i64 ((a + 18 + laN bs a : Nat) : Int), .nilIface]) ∧ Own 5 w' w.heap.size w'.heap.size (.slice p' (laN bs a) c') (laN bs a) (laX bs a) ∧ Below w.heap.size w w' := by
  obtain ⟨_, h1, hB⟩ := hok
  rw [Int.toNat_natCast] at h1 hB
  obtain ⟨g, o, rfl, _⟩ := id h (by omega)
  refine (lineAt_at g o n c bs a w hn hx h hb hc (by omega)).mono ?_
  rintro e w' ⟨p', c', rfl, r, b⟩
  rw [hB, atV, if_pos rfl]
  exact ⟨p', c', rfl, r, b⟩
theorem told_any (kd : Int) (s : ByteArray) (t d : Int) (p : Option Addr) (n c : Nat) (w : World) (h : lnB kd s t d n = true) :
    Calls Tryd.prog 18 #[kindV kd s t d p n c] w fun e w' => ∃ p' c', e = .returned (.agg #[.int .i64 kd, .string s, .int .i64 t, .int .i64 d, .slice p' n c']) ∧ ((p' = p ∧ c' = c) ∨ (p' = none ∧ c' = 0 ∧ n = 0)) ∧ Below w.heap.size w w' := by
  unfold kindV
  by_cases h1 : kd = 1
  · subst h1
    rw [if_pos rfl]
    exact (told1 s t d p n c w).mono fun e w' k => ⟨p, c, k.1, .inl ⟨rfl, rfl⟩, k.2⟩
  · rw [if_neg h1]
    unfold lnB at h
    rw [if_neg h1] at h
    by_cases h2 : kd = 2
    · subst h2
      rw [if_pos rfl] at h ⊢
      simp only [Bool.and_eq_true, decide_eq_true_eq] at h
      obtain ⟨_, rfl, rfl, rfl⟩ := h
      exact (told2 s w).mono fun e w' k => ⟨none, 0, k.1, .inr ⟨rfl, rfl, rfl⟩, k.2⟩
    · rw [if_neg h2] at h ⊢
      by_cases h3 : kd = 3
      · subst h3
        rw [if_pos rfl] at h
        simp only [Bool.and_eq_true, decide_eq_true_eq] at h
        obtain ⟨rfl, rfl, _, rfl⟩ := h
        exact (told3 d w).mono fun e w' k => ⟨none, 0, k.1, .inr ⟨rfl, rfl, rfl⟩, k.2⟩
      · rw [if_neg h3] at h
        cases h

set_option maxHeartbeats 8000000 in
theorem implLineOf_no (p : Option Addr) (n c : Nat) (bs : List Int) (at_ : Int) (w : World) (hn : n ≤ 1048576) (hx : bs.length = n) (h : BytesIn w p n bs) (hb : ∀ x ∈ bs, 0 ≤ x ∧ x < 256) (hc : n ≤ c) (ha : at_ ≤ 9223372036854775807) (hno : ¬ laOk bs at_) (hE : ErrIs w) :
    Calls Tryd.prog 6 #[.slice p n c, .int .i64 at_] w fun e w' => e = .returned (.tuple #[.agg #[.int .i64 0, .string { data := #[] }, .int .i64 0, .int .i64 0, .slice none 0 0], .int .i64 0, .bool false]) ∧ Below w.heap.size w w' := by
  obtain ⟨W, hW⟩ : ∃ W, W = w.alloc (.cells #[.int .i64 0, .string { data := #[] }, .int .i64 0, .int .i64 0, .slice none 0 0] 24) := ⟨_, rfl⟩
  have kA : Below w.heap.size w W := made_eq hW
  have C0 : Cells W w.heap.size #[.int .i64 0, .string { data := #[] }, .int .i64 0, .int .i64 0, .slice none 0 0] := by rw [hW]; exact Cells.made _ _ _
  replace hW : Hid (w.alloc (.cells #[.int .i64 0, .string { data := #[] }, .int .i64 0, .int .i64 0, .slice none 0 0] 24) = W) := hW.symm
  have CN := lineAt_no p n c bs at_ W hn hx (in_below h kA) hb hc ha hno
  go_enter Tryd.func6, Tryd.ntmps6
  go_wp2_with (rw [hW.out])
  refine CN.mono ?_
  rintro e w1 ⟨rfl, b1⟩
  have k1 := below_on kA b1
  replace C0 := C0.on b1
  obtain ⟨w2, hw2⟩ : ∃ X, X = w1.alloc (.cells #[.int .i64 0] 44) := ⟨_, rfl⟩
  have b2 : Below w1.heap.size w1 w2 := made_eq hw2
  have C2 : Cells w2 w1.heap.size #[.int .i64 0] := by rw [hw2]; exact Cells.made _ _ _
  replace hw2 : Hid (w1.alloc (.cells #[.int .i64 0] 44) = w2) := hw2.symm
  have k2 := below_on k1 b2
  have hB1 := C0.1
  replace C0 := C0.on b2
  have AH := as_hit at_ w1.heap.size (.int .i64 0) w2 ((hE.on k2)) C2
  go_wp2_with (rw [hw2.out])
  refine AH.mono ?_
  rintro e w3 ⟨rfl, b3, _⟩
  have k3 : Below w.heap.size w w3 := k2.trans (b3.mono k1.size)
  replace C0 := cells_under C0 b3 hB1
  have q0 : (w3).cell? ⟨w.heap.size, 0, none⟩ = some (.int .i64 0) := (C0.2 0).1
  have u0 := (C0.2 0).2
  have E1 := C0.set 0 (by simp) (.int .i64 0)
  have q1 : (w3.setCell ⟨w.heap.size, 0, none⟩ (.int .i64 0)).cell? ⟨w.heap.size, 1, none⟩ = some (.string { data := #[] }) := (E1.2 1).1
  have u1 := (E1.2 1).2
  have E2 := E1.set 1 (by simp) (.string { data := #[] })
  have q2 : ((w3.setCell ⟨w.heap.size, 0, none⟩ (.int .i64 0)).setCell ⟨w.heap.size, 1, none⟩ (.string { data := #[] })).cell? ⟨w.heap.size, 2, none⟩ = some (.int .i64 0) := (E2.2 2).1
  have u2 := (E2.2 2).2
  have E3 := E2.set 2 (by simp) (.int .i64 0)
  have q3 : (((w3.setCell ⟨w.heap.size, 0, none⟩ (.int .i64 0)).setCell ⟨w.heap.size, 1, none⟩ (.string { data := #[] })).setCell ⟨w.heap.size, 2, none⟩ (.int .i64 0)).cell? ⟨w.heap.size, 3, none⟩ = some (.int .i64 0) := (E3.2 3).1
  have u3 := (E3.2 3).2
  have E4 := E3.set 3 (by simp) (.int .i64 0)
  have q4 : ((((w3.setCell ⟨w.heap.size, 0, none⟩ (.int .i64 0)).setCell ⟨w.heap.size, 1, none⟩ (.string { data := #[] })).setCell ⟨w.heap.size, 2, none⟩ (.int .i64 0)).setCell ⟨w.heap.size, 3, none⟩ (.int .i64 0)).cell? ⟨w.heap.size, 4, none⟩ = some (.slice none 0 0) := (E4.2 4).1
  have u4 := (E4.2 4).2
  have E5 := E4.set 4 (by simp) (.slice none 0 0)
  obtain ⟨X, hX⟩ : ∃ X, X = ((((w3.setCell ⟨w.heap.size, 0, none⟩ (.int .i64 0)).setCell ⟨w.heap.size, 1, none⟩ (.string { data := #[] })).setCell ⟨w.heap.size, 2, none⟩ (.int .i64 0)).setCell ⟨w.heap.size, 3, none⟩ (.int .i64 0)).setCell ⟨w.heap.size, 4, none⟩ (.slice none 0 0) := ⟨_, rfl⟩
  rw [← hX] at E5
  have kX : Below w.heap.size w X := by rw [hX]; exact (below_setB (below_setB (below_setB (below_setB (below_setB k3 (Nat.le_refl _) _) (Nat.le_refl _) _) (Nat.le_refl _) _) (Nat.le_refl _) _) (Nat.le_refl _) _)
  have e0 : X.cell? ⟨w.heap.size, 0, none⟩ = some (.int .i64 0) := (E5.2 0).1
  have e1 : X.cell? ⟨w.heap.size, 1, none⟩ = some (.string { data := #[] }) := (E5.2 1).1
  have e2 : X.cell? ⟨w.heap.size, 2, none⟩ = some (.int .i64 0) := (E5.2 2).1
  have e3 : X.cell? ⟨w.heap.size, 3, none⟩ = some (.int .i64 0) := (E5.2 3).1
  have e4 : X.cell? ⟨w.heap.size, 4, none⟩ = some (.slice none 0 0) := (E5.2 4).1
  have zX : X.heap.size = w3.heap.size := by rw [hX]; simp
  replace hX : Hid (((((w3.setCell ⟨w.heap.size, 0, none⟩ (.int .i64 0)).setCell ⟨w.heap.size, 1, none⟩ (.string { data := #[] })).setCell ⟨w.heap.size, 2, none⟩ (.int .i64 0)).setCell ⟨w.heap.size, 3, none⟩ (.int .i64 0)).setCell ⟨w.heap.size, 4, none⟩ (.slice none 0 0) = X) := hX.symm
  clear E1 E2 E3 E4 E5 C0 C2 k1 k2 k3 b1 b2 b3 zX
  go_wp2_with (rw [hX.out])
  refine bodyPost_ret (v := .tuple #[.agg #[.int .i64 0, .string { data := #[] }, .int .i64 0, .int .i64 0, .slice none 0 0], .int .i64 0, .bool false]) ?_ rfl ⟨rfl, kX⟩
  simp only [results, Tryd.f6]
  go_simp

set_option maxHeartbeats 8000000 in
theorem implLineOf_yes (p : Option Addr) (n c : Nat) (bs : List Int) (a : Nat) (w : World) (hn : n ≤ 1048576) (hx : bs.length = n) (h : BytesIn w p n bs) (hb : ∀ x ∈ bs, 0 ≤ x ∧ x < 256) (hc : n ≤ c) (hok : laOk bs (a : Int)) :
    Calls Tryd.prog 6 #[.slice p n c, .int .i64 (a : Int)] w fun e w' => ∃ pt ct, e = .returned (.tuple #[.agg #[.int .i64 (laK bs a), .string (laS bs a), .int .i64 (laT bs a), .int .i64 (laD bs a), .slice pt (laN bs a) ct], .int .i64 ((a + 18 + laN bs a : Nat) : Int), .bool true]) ∧ Own 5 w' w.heap.size w'.heap.size (.slice pt (laN bs a) ct) (laN bs a) (laX bs a) ∧ Below w.heap.size w w' := by
  obtain ⟨W, hW⟩ : ∃ W, W = w.alloc (.cells #[.int .i64 0, .string { data := #[] }, .int .i64 0, .int .i64 0, .slice none 0 0] 24) := ⟨_, rfl⟩
  have kA : Below w.heap.size w W := made_eq hW
  have C0 : Cells W w.heap.size #[.int .i64 0, .string { data := #[] }, .int .i64 0, .int .i64 0, .slice none 0 0] := by rw [hW]; exact Cells.made _ _ _
  have hWs : W.heap.size = w.heap.size + 1 := by rw [hW]; simp
  replace hW : Hid (w.alloc (.cells #[.int .i64 0, .string { data := #[] }, .int .i64 0, .int .i64 0, .slice none 0 0] 24) = W) := hW.symm
  have CN := lineAt_yes p n c bs a W hn hx (in_below h kA) hb hc hok
  have hln : lnB (laK bs a) (laS bs a) (laT bs a) (laD bs a) (laN bs a) = true := by
    obtain ⟨_, h1, hB⟩ := hok
    rw [Int.toNat_natCast] at h1 hB
    exact laB_ln (by omega) hB
  have TA := fun p' c' X => told_any _ _ _ _ p' _ c' X hln
  have hXl := laX_len (bs := bs) (a := a) (by have := hok.2.1; rw [Int.toNat_natCast] at this; exact this)
  generalize ((a + 18 + laN bs a : Nat) : Int) = P at CN ⊢
  generalize laK bs a = K at CN TA ⊢
  generalize laS bs a = S at CN TA ⊢
  generalize laT bs a = T at CN TA ⊢
  generalize laD bs a = DD at CN TA ⊢
  generalize laX bs a = XS at CN hXl ⊢
  generalize laN bs a = M at CN TA hXl ⊢
  replace hWs : Hid (W.heap.size = w.heap.size + 1) := hWs
  clear hln hok h hb hx
  go_enter Tryd.func6, Tryd.ntmps6
  go_wp2_with (rw [hW.out])
  refine CN.mono ?_
  rintro e w1 ⟨pk, ck, rfl, rk, b1⟩
  have k1 := below_on kA b1
  replace C0 := C0.on b1
  have TK := fun X => TA pk ck X
  generalize kindV K S T DD pk M ck = KV at TK ⊢
  obtain ⟨w2, hw2⟩ : ∃ X, X = w1.alloc (.cells #[.int .i64 0] 44) := ⟨_, rfl⟩
  have b2 : Below w1.heap.size w1 w2 := made_eq hw2
  replace hw2 : Hid (w1.alloc (.cells #[.int .i64 0] 44) = w2) := hw2.symm
  have k2 := below_on k1 b2
  replace C0 := C0.on b2
  have r2 := rk.on b2
  go_wp2_with (rw [hw2.out])
  refine (as_nil _ _).mono ?_
  rintro e w3 ⟨rfl, rfl⟩
  go_wp2_with (fail)
  refine (TK _).mono ?_
  rintro e w4 ⟨pt, ct, rfl, hpt, b4⟩
  have k4 := below_on k2 b4
  replace C0 := C0.on b4
  have r4 : Own 5 w4 W.heap.size w1.heap.size (.slice pt M ct) M XS := by
    rcases hpt with ⟨rfl, rfl⟩ | ⟨rfl, rfl, rfl⟩
    · exact r2.on b4
    · obtain rfl : XS = [] := List.eq_nil_of_length_eq_zero hXl
      exact ⟨⟨rfl, .inl ⟨rfl, rfl⟩⟩, fun k hk => by cases hk⟩
  have z4 : w1.heap.size ≤ w4.heap.size := Nat.le_trans b2.size b4.size
  have q0 : (w4).cell? ⟨w.heap.size, 0, none⟩ = some (.int .i64 0) := (C0.2 0).1
  have u0 := (C0.2 0).2
  have E1 := C0.set 0 (by simp) (.int .i64 K)
  have q1 : (w4.setCell ⟨w.heap.size, 0, none⟩ (.int .i64 K)).cell? ⟨w.heap.size, 1, none⟩ = some (.string { data := #[] }) := (E1.2 1).1
  have u1 := (E1.2 1).2
  have E2 := E1.set 1 (by simp) (.string S)
  have q2 : ((w4.setCell ⟨w.heap.size, 0, none⟩ (.int .i64 K)).setCell ⟨w.heap.size, 1, none⟩ (.string S)).cell? ⟨w.heap.size, 2, none⟩ = some (.int .i64 0) := (E2.2 2).1
  have u2 := (E2.2 2).2
  have E3 := E2.set 2 (by simp) (.int .i64 T)
  have q3 : (((w4.setCell ⟨w.heap.size, 0, none⟩ (.int .i64 K)).setCell ⟨w.heap.size, 1, none⟩ (.string S)).setCell ⟨w.heap.size, 2, none⟩ (.int .i64 T)).cell? ⟨w.heap.size, 3, none⟩ = some (.int .i64 0) := (E3.2 3).1
  have u3 := (E3.2 3).2
  have E4 := E3.set 3 (by simp) (.int .i64 DD)
  have q4 : ((((w4.setCell ⟨w.heap.size, 0, none⟩ (.int .i64 K)).setCell ⟨w.heap.size, 1, none⟩ (.string S)).setCell ⟨w.heap.size, 2, none⟩ (.int .i64 T)).setCell ⟨w.heap.size, 3, none⟩ (.int .i64 DD)).cell? ⟨w.heap.size, 4, none⟩ = some (.slice none 0 0) := (E4.2 4).1
  have u4 := (E4.2 4).2
  have E5 := E4.set 4 (by simp) (.slice pt M ct)
  obtain ⟨X, hX⟩ : ∃ X, X = ((((w4.setCell ⟨w.heap.size, 0, none⟩ (.int .i64 K)).setCell ⟨w.heap.size, 1, none⟩ (.string S)).setCell ⟨w.heap.size, 2, none⟩ (.int .i64 T)).setCell ⟨w.heap.size, 3, none⟩ (.int .i64 DD)).setCell ⟨w.heap.size, 4, none⟩ (.slice pt M ct) := ⟨_, rfl⟩
  rw [← hX] at E5
  have kX : Below w.heap.size w X := by rw [hX]; exact (below_setB (below_setB (below_setB (below_setB (below_setB k4 (Nat.le_refl _) _) (Nat.le_refl _) _) (Nat.le_refl _) _) (Nat.le_refl _) _) (Nat.le_refl _) _)
  have e0 : X.cell? ⟨w.heap.size, 0, none⟩ = some (.int .i64 K) := (E5.2 0).1
  have e1 : X.cell? ⟨w.heap.size, 1, none⟩ = some (.string S) := (E5.2 1).1
  have e2 : X.cell? ⟨w.heap.size, 2, none⟩ = some (.int .i64 T) := (E5.2 2).1
  have e3 : X.cell? ⟨w.heap.size, 3, none⟩ = some (.int .i64 DD) := (E5.2 3).1
  have e4 : X.cell? ⟨w.heap.size, 4, none⟩ = some (.slice pt M ct) := (E5.2 4).1
  have zX : X.heap.size = w4.heap.size := by rw [hX]; simp
  have rX : Own 5 X w.heap.size X.heap.size (.slice pt M ct) M XS := by
    have hlt : w.heap.size < W.heap.size := by rw [hWs.out]; omega
    rw [zX, hX]
    exact own_wide (own_set (own_set (own_set (own_set (own_set r4 _ (Or.inl hlt)) _ (Or.inl hlt)) _ (Or.inl hlt)) _ (Or.inl hlt)) _ (Or.inl hlt)) (Nat.le_of_lt hlt) z4
  replace hX : Hid (((((w4.setCell ⟨w.heap.size, 0, none⟩ (.int .i64 K)).setCell ⟨w.heap.size, 1, none⟩ (.string S)).setCell ⟨w.heap.size, 2, none⟩ (.int .i64 T)).setCell ⟨w.heap.size, 3, none⟩ (.int .i64 DD)).setCell ⟨w.heap.size, 4, none⟩ (.slice pt M ct) = X) := hX.symm
  clear E1 E2 E3 E4 E5 C0 k1 k2 k4 b1 b2 b4 zX r2 r4 rk
  go_wp2_with (rw [hX.out])
  refine bodyPost_ret (v := .tuple #[.agg #[.int .i64 K, .string S, .int .i64 T, .int .i64 DD, .slice pt M ct], .int .i64 P, .bool true]) ?_ rfl ⟨pt, ct, rfl, rX, kX⟩
  simp only [results, Tryd.f6]
  go_simp

end Go.Proofs.YtelfejgpphoifaaDoor
