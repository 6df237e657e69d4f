/-
  shelved: the items of a queue, in their order, by route. Conditions: items that lie there, as many as a law hands over.
-/
import Derived.Test.YtggbmpgpopenoaaShelfAdd
import Derived.Test.YtggbmpgpopenoaaItemsSz
namespace Go.Proofs.Ytggbmpgpopenoaa
open Go.RowKit
set_option maxRecDepth 100000

/-- The items with their places. -/
def plL (its : List ItA) : List PIt := its.zipIdx.map fun z => ⟨(z.2 : Int), z.1⟩
theorem plL_push (its : List ItA) (x : ItA) : plL (its ++ [x]) = plL its ++ [⟨(its.length : Int), x⟩] := by simp [plL, List.zipIdx_append]
theorem plL_length (its : List ItA) : (plL its).length = its.length := by simp [plL]

theorem build_shelf (B : Nat) (X : World) : (Instr.build 76 #[(0, .map (some B))]).run Try.prog X = .ok (.agg #[.map (some B), .int .i64 0]) X := by kernel_rfl

set_option maxHeartbeats 8000000 in
theorem shelved_any (p : Option Addr) (n c : Nat) (its : List ItA) (w : World) (hn : n ≤ 1048576) (hl : its.length = n) (h : ItemsIn w p n its) (hs : ∀ x ∈ its, x.s.size ≤ 1048576) :
    Calls Try.prog 43 #[.slice p n c] w fun e w' => ∃ S, e = .returned (.pointer (some ⟨S, 0, none⟩)) ∧ Shelf w' w.heap.size S (plL its) n n ∧ Below w.heap.size w w' := by
  have hmm := @run_makeMap Try.prog
  have hbs := build_shelf w.heap.size (w.alloc (.map #[] 0))
  obtain ⟨w1, hw1⟩ : ∃ w1, w1 = w.alloc (.map #[] 0) := ⟨_, rfl⟩
  have hM := MapW.made w
  have b1 : Below w.heap.size w w1 := by rw [hw1]; exact made_below _ _ (Below.refl _ _)
  have z1 : w1.heap.size = w.heap.size + 1 := by rw [hw1]; simp
  rw [← hw1] at hM hbs
  obtain ⟨w2, hw2⟩ : ∃ w2, w2 = w1.alloc (.cells #[.map (some w.heap.size), .int .i64 0] 76) := ⟨_, rfl⟩
  have b2 : Below w1.heap.size w1 w2 := by rw [hw2]; exact made_below _ _ (Below.refl _ _)
  have C2 : Cells w2 w1.heap.size #[.map (some w.heap.size), .int .i64 0] := by rw [hw2]; exact Cells.made _ _ _
  have S0 : Shelf w2 w.heap.size w1.heap.size [] 0 0 := ⟨w.heap.size, 0, fun _ => none, C2, by omega, Nat.le_refl _, ⟨hM.on b2, Nat.le_refl _, fun _ _ => rfl, fun s hs => absurd rfl hs, fun s s' v v' _ hv => (by cases hv), fun s v hv => (by cases hv)⟩⟩
  have kb : Below w.heap.size w w2 := below_on b1 b2
  replace hw1 : Hid (w.alloc (.map #[] 0) = w1) := hw1.symm
  replace hw2 : Hid (w1.alloc (.cells #[.map (some w.heap.size), .int .i64 0] 76) = w2) := hw2.symm
  clear hM b1 b2 C2 z1
  go_enter Try.func43, Try.ntmps43
  go_wp2_with (first | rw [hw1.out] | rw [hw2.out])
  obtain ⟨S, hS⟩ : ∃ S, S = w1.heap.size := ⟨_, rfl⟩
  rw [← hS] at S0 ⊢
  clear hS hw1 hw2 hbs hmm
  go_loopw [11] (fun i wr => ∃ k : Nat, k ≤ n ∧ i = .int .i64 k ∧ Shelf wr w.heap.size S (plL (its.take k)) k k ∧ Below w.heap.size w wr) (fun i _ => n - (intOf i).toNat)
  case atStart => exact ⟨0, Nat.zero_le _, rfl, S0, kb⟩
  case round =>
    clear S0 kb
    obtain ⟨k, hk, rfl, hSh, hbel⟩ := hrel
    by_cases hlt : k < n
    · obtain ⟨b, o, rfl, hc⟩ := itemsIn_on h hbel (by omega)
      obtain ⟨x, hx⟩ : ∃ x, its.getD k default = x := ⟨_, rfl⟩
      obtain ⟨l0, l1, l2, l3⟩ := ItemsIn.at hc hlt hx
      have hsx := hs x (hx ▸ getD_mem (by omega))
      have hst : plL (its.take (k + 1)) = plL (its.take k) ++ [⟨(k : Int), x⟩] := by
        rw [take_getD (by omega), hx, plL_push, List.length_take, Nat.min_eq_left (by omega)]
      have hln : (plL (its.take k)).length ≤ 1048577 := by rw [plL_length, List.length_take]; omega
      obtain ⟨s, t, d, xp, xn, xc, xs⟩ := x
      dsimp only at l0 l1 l2 l3 hsx
      obtain ⟨w3, hw3⟩ : ∃ w3, w3 = wr.alloc (.cells #[.string s, .int .i64 t, .int .i64 d, .slice xp xn xc] 26) := ⟨_, rfl⟩
      have b3 : Below wr.heap.size wr w3 := by rw [hw3]; exact made_below _ _ (Below.refl _ _)
      have C3 : Cells w3 wr.heap.size #[.string s, .int .i64 t, .int .i64 d, .slice xp xn xc] := by rw [hw3]; exact Cells.made _ _ _
      have m0 : w3.cell? ⟨wr.heap.size, 0, none⟩ = some (.string s) := (C3.2 0).1
      have m1 : w3.cell? ⟨wr.heap.size, 1, none⟩ = some (.int .i64 t) := (C3.2 1).1
      have m2 : w3.cell? ⟨wr.heap.size, 2, none⟩ = some (.int .i64 d) := (C3.2 2).1
      have m3 : w3.cell? ⟨wr.heap.size, 3, none⟩ = some (.slice xp xn xc) := (C3.2 3).1
      have hA := add_any w3 w.heap.size S (plL (its.take k)) k k s t d xp xn xc xs hsx (by omega) hln ⟨by omega, by omega⟩ (hSh.on b3)
      have hb3 := below_on hbel b3
      rw [← hst] at hA
      replace hw3 : Hid (wr.alloc (.cells #[.string s, .int .i64 t, .int .i64 d, .slice xp xn xc] 26) = w3) := hw3.symm
      clear hc h hx hs hst hln C3 b3 hbel hSh
      go_wp2_with (rw [hw3.out])
      refine hA.mono ?_
      rintro z w4 ⟨rfl, hSh4, hb4⟩
      have hbel4 : Below w.heap.size w w4 := hb3.trans hb4
      have hSh5 : Shelf w4 w.heap.size S (plL (its.take (k + 1))) ((k + 1 : Nat) : Int) (k + 1) := by
        have e : ((k + 1 : Nat) : Int) = (k : Int) + 1 := by omega
        rw [e]; exact hSh4
      clear hA hb3 hb4 hSh4
      go_wp2_with (fail)
      go_roundw
      case rel => exact ⟨k + 1, by omega, by go_num, hSh5, hbel4⟩
      case measure => simp [intOf]; omega
    · have hkn : k = n := by omega
      subst hkn
      rw [show its.take k = its by rw [← hl, List.take_length]] at hSh
      go_wp2_with (fail)
      go_ret
      exact ⟨S, rfl, hSh, hbel⟩

end Go.Proofs.Ytggbmpgpopenoaa
