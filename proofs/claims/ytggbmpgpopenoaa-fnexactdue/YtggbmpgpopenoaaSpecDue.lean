/-
  What is not due yet, as the specification says it. Conditions: items that lie there, as many as a law hands over.
-/
import Derived.Test.YtggbmpgpopenoaaSpecTake
namespace Go.Proofs.Ytggbmpgpopenoaa
open Go.RowKit
set_option maxRecDepth 100000

/-- What stays at a time. -/
def dueL (now : Int) (its : List ItA) : List ItA := its.filter (fun y => decide (now ≤ y.d))
theorem dueL_step (now : Int) (its : List ItA) (k : Nat) (h : k < its.length) : dueL now (its.take (k + 1)) = dueL now (its.take k) ++ dueL now [its.getD k default] := by
  rw [take_getD h]
  simp [dueL]

set_option maxHeartbeats 8000000 in
theorem specDue_any (p : Option Addr) (n c : Nat) (its : List ItA) (now : Int) (w : World) (hn : n ≤ 1048576) (hl : its.length = n) (h : ItemsIn w p n its) (li : ∀ y ∈ its, y.Lies w) (fit : ∀ y ∈ its, y.n ≤ 1048576) :
    Calls Try.prog 23 #[.slice p n c, .int .i64 now] w fun e w' => ∃ (q : Option Addr) (cq : Nat) (its' : List ItA), e = .returned (.slice q (dueL now its).length cq) ∧
      OwnItems w' w.heap.size w'.heap.size (.slice q (dueL now its).length cq) (dueL now its).length its' ∧ Hid (its'.map ItA.con = (dueL now its).map ItA.con) ∧ Below w.heap.size w w' := by
  have hN := OwnItems.none13 w w.heap.size (Nat.le_refl _)
  obtain ⟨w1, hw1⟩ : ∃ w1, w1 = w.alloc (.cells #[] 26) := ⟨_, rfl⟩
  have b1 : Below w.heap.size w w1 := by rw [hw1]; exact made_below _ _ (Below.refl _ _)
  rw [← hw1] at hN
  replace hw1 : Hid (w.alloc (.cells #[] 26) = w1) := hw1.symm
  go_enter Try.func23, Try.ntmps23
  go_wp2_with (rw [hw1.out])
  clear hw1
  go_loopw [5, 6] (fun a i wr => ∃ k : Nat, k ≤ n ∧ i = .int .i64 k ∧ (∃ (done : List ItA) (j g cap : Nat), a = .slice (some ⟨g, 0, none⟩) j cap ∧ j ≤ k ∧ Hid (done.map ItA.con = (dueL now (its.take k)).map ItA.con) ∧ OwnItems wr w.heap.size wr.heap.size (.slice (some ⟨g, 0, none⟩) j cap) j done) ∧ Below w.heap.size w wr) (fun _ i _ => n - (intOf i).toNat)
  case atStart => exact ⟨0, Nat.zero_le _, rfl, ⟨[], 0, w.heap.size, 0, rfl, Nat.le_refl _, rfl, hN⟩, b1⟩
  case round =>
    clear hN b1
    obtain ⟨k, hk, rfl, ⟨done, j, g, cap, rfl, hj, hdc, hO⟩, hbel⟩ := hrel
    by_cases hlt : k < n
    · obtain ⟨b, o, rfl, hc⟩ := itemsIn_on h hbel (by omega)
      obtain ⟨y, hy⟩ : ∃ y, its.getD k default = y := ⟨_, rfl⟩
      obtain ⟨l0, l1, l2, l3⟩ := ItemsIn.at hc hlt hy
      have hym : y ∈ its := hy ▸ getD_mem (by omega)
      have ly := (li y hym).on hbel
      have hny := fit y hym
      have hst := dueL_step now its k (by omega)
      rw [hy] at hst
      have hstay : Hid (now ≤ y.d → done.map ItA.con ++ [y.con] = (dueL now (its.take (k + 1))).map ItA.con) := fun q => by
        rw [hst, List.map_append, hdc.out]
        simp [dueL, q]
      have hgo : Hid (¬ now ≤ y.d → done.map ItA.con = (dueL now (its.take (k + 1))).map ItA.con) := fun q => by
        rw [hst, List.map_append, hdc.out]
        simp [dueL, q]
      clear hst hdc hy hym hc h li fit
      obtain ⟨y1, y2, y3⟩ := ly
      by_cases hin : now ≤ y.d
      · replace hstay : Hid _ := hstay.out hin
        clear hgo
        go_wp2_with (fail)
        refine (l13Item_own y.s y.t y.d y.p y.n y.c y.xs _ hny y2 y3).mono ?_
        rintro z w2 ⟨p2, c2, rfl, r2, b2⟩
        have hO2 := (hO.on b2).wide (lo' := w.heap.size) (hi' := w2.heap.size) (Nat.le_refl _) b2.size
        have hap := fresh_apart hO (x := ⟨y.s, y.t, y.d, p2, y.n, c2, y.xs⟩) r2
        have hbel2 := below_on hbel b2
        have hz2 := hbel2.size
        have hnew : Hid ((done ++ [(⟨y.s, y.t, y.d, p2, y.n, c2, y.xs⟩ : ItA)]).map ItA.con = (dueL now (its.take (k + 1))).map ItA.con) := by
          rw [Hid, List.map_append, ← hstay.out]; rfl
        have r2' : Own 5 w2 w.heap.size w2.heap.size (ItA.slice ⟨y.s, y.t, y.d, p2, y.n, c2, y.xs⟩) y.n y.xs := Own.wide r2 hbel.size (Nat.le_refl _)
        clear hO b2 r2 hstay l0 l1 l2 l3
        go_wp2_with (at_builtin; refine list_pushItem (w := w2) ⟨y.s, y.t, y.d, p2, y.n, c2, y.xs⟩ hO2 r2' hap.1 hap.2 (by omega) hz2 _ _ rfl rfl rfl rfl ?_; intro g3 c3 w3 hO3 hb3)
        go_roundw
        case rel => exact ⟨k + 1, by omega, by go_num, ⟨_, j + 1, g3, c3, rfl, by omega, hnew, hO3⟩, hbel2.trans hb3⟩
        case measure => simp [intOf]; omega
      · replace hgo : Hid _ := hgo.out hin
        clear hstay
        go_wp2_with (fail)
        go_roundw
        case rel => exact ⟨k + 1, by omega, by go_num, ⟨done, j, g, cap, rfl, by omega, hgo, hO⟩, hbel⟩
        case measure => simp [intOf]; omega
    · have hkn : k = n := by omega
      subst hkn
      rw [show its.take k = its by rw [← hl, List.take_length]] at hdc
      have hjl : Hid (j = (dueL now its).length) := by have := congrArg List.length hdc.out; rw [List.length_map, List.length_map, hO.len] at this; exact this
      clear h li fit
      go_wp2_with (fail)
      go_ret
      rw [← hjl.out]
      exact ⟨_, _, done, rfl, hO, hdc, hbel⟩

end Go.Proofs.Ytggbmpgpopenoaa
