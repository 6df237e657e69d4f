/-
  Whether a queue is right, as the specification tells it. Conditions: items that lie there, as many as a law hands over.
-/
import Derived.Test.YtggbmpgpopenoaaSpecOf
import Derived.Test.YtggbmpgpopenoaaItemOk
import Derived.Test.YtggbmpgpopenoaaItemsEq
namespace Go.Proofs.Ytggbmpgpopenoaa
open Go.RowKit
set_option maxRecDepth 100000

/-- Two of one route and topic. -/
def clash (x y : ItA) : Prop := x.s = y.s ∧ x.t = y.t ∧ 0 < y.t
def okAt (its : List ItA) (i : Nat) : Prop :=
  itB (its.getD i default).s (its.getD i default).t (its.getD i default).d (its.getD i default).n = true ∧ cntI (its.getD i default).s its ≤ 4 ∧ ∀ k, k < i → ¬ clash (its.getD k default) (its.getD i default)
/-- What a right queue is. -/
def QOk (its : List ItA) : Prop := its.length ≤ 10 ∧ ∀ i, i < its.length → okAt its i
noncomputable def qB (its : List ItA) : Bool := @decide (QOk its) (Classical.propDecidable _)
theorem qB_true {its : List ItA} (h : QOk its) : qB its = true := by unfold qB; exact @decide_eq_true _ (Classical.propDecidable _) h
theorem qB_false {its : List ItA} (h : ¬ QOk its) : qB its = false := by unfold qB; exact @decide_eq_false _ (Classical.propDecidable _) h

set_option maxHeartbeats 8000000 in
theorem specQueueOk_any (p : Option Addr) (n c : Nat) (its : List ItA) (w : World) (hn : n ≤ 1048576) (hl : its.length = n) (h : ItemsIn w p n its) (hs : ∀ x ∈ its, x.s.size ≤ 1048576) :
    Calls Try.prog 27 #[.slice p n c] w fun e w' => e = .returned (.bool (qB its)) ∧ Below w.heap.size w w' := by
  obtain ⟨R, hR⟩ : ∃ R : Bool, R = qB its := ⟨_, rfl⟩
  rw [← hR]
  have hno : Hid (∀ i, i < n → ¬ okAt its i → R = false) := fun i hi hx => by rw [hR]; exact qB_false fun q => hx (q.2 i (by omega))
  have hall : Hid ((∀ i, i < n → okAt its i) → R = decide (n ≤ 10)) := fun ha => by
    rw [hR]
    by_cases e : n ≤ 10
    · rw [decide_eq_true e]; exact qB_true ⟨by omega, fun i hi => ha i (by omega)⟩
    · rw [decide_eq_false e]; exact qB_false fun q => e (by have := q.1; omega)
  clear hR
  go_enter Try.func27, Try.ntmps27
  go_wp2_with (fail)
  go_loopw [3] (fun i wr => ∃ k : Nat, k ≤ n ∧ i = .int .i64 k ∧ Hid (∀ j, j < k → okAt its j) ∧ Below w.heap.size w wr) (fun i _ => n - (intOf i).toNat)
  case atStart => exact ⟨0, Nat.zero_le _, rfl, fun j hj => absurd hj (Nat.not_lt_zero _), Below.refl _ _⟩
  case round =>
    obtain ⟨k, hk, rfl, hdone, hbel⟩ := hrel
    by_cases hlt : k < n
    · have hI := itemsIn_on h hbel
      obtain ⟨b, o, rfl, hc⟩ := hI (by omega)
      obtain ⟨x, hx⟩ : ∃ x, its.getD k default = x := ⟨_, rfl⟩
      obtain ⟨l0, l1, l2, l3⟩ := ItemsIn.at hc hlt hx
      have hsx := hs x (hx ▸ getD_mem (by omega))
      have hok : Hid (okAt its k ↔ itB x.s x.t x.d x.n = true ∧ cntI x.s its ≤ 4 ∧ ∀ j, j < k → ¬ clash (its.getD j default) x) := by rw [Hid, okAt, hx]
      have hle := cntI_le x.s its
      obtain ⟨s, t, d, xp, xn, xc, xs⟩ := x
      dsimp only at l0 l1 l2 l3 hsx hok hle
      have C := specItemOk_any s t d xp xn xc wr hsx
      cases hb : itB s t d xn
      · rw [hb] at C
        have hr := hno.out k hlt (fun q => by have := (hok.out.1 q).1; rw [hb] at this; cases this)
        subst hr
        clear hno hall hok hdone hc hI hx hb
        go_wp2_with (fail)
        refine C.mono ?_
        rintro z w2 ⟨rfl, b2⟩
        have hbel2 := below_on hbel b2
        clear b2 hbel C
        go_wp2_with (fail)
        go_ret
        exact ⟨rfl, hbel2⟩
      · rw [hb] at C
        go_wp2_with (fail)
        refine C.mono ?_
        rintro z w2 ⟨rfl, b2⟩
        have hbel2 := below_on hbel b2
        have hI2 := itemsIn_on h hbel2
        obtain ⟨b', o', hpe, hc2⟩ := hI2 (by omega)
        simp only [Option.some.injEq, Addr.mk.injEq, and_true] at hpe
        obtain ⟨rfl, rfl⟩ := hpe
        obtain ⟨m0, m1, m2, m3⟩ := ItemsIn.at hc2 hlt hx
        dsimp only at m0 m1 m2 m3
        have C2 := specOf_any (some ⟨b, o, none⟩) n c its s w2 hn hl hI2
        obtain ⟨cn, hcn⟩ : ∃ cn, cn = cntI s its := ⟨_, rfl⟩
        rw [← hcn] at C2
        replace hcn : Hid (cn = cntI s its) := hcn
        have hcl : cn ≤ 1048576 := by have := hcn.out; omega
        clear b2 hbel C hI hc l0 l1 l2 l3 hle
        by_cases h4 : (cn : Int) ≤ 4
        · go_wp2_with (fail)
          refine C2.mono ?_
          rintro z w3 ⟨rfl, rfl⟩
          clear C2
          go_wp2_with (fail)
          go_loopw [4] (fun i wr => ∃ j : Nat, j ≤ k ∧ i = .int .i64 j ∧ Hid (∀ l, l < j → ¬ clash (its.getD l default) ⟨s, t, d, xp, xn, xc, xs⟩) ∧ Below w.heap.size w wr) (fun i _ => k - (intOf i).toNat)
          case atStart => exact ⟨0, Nat.zero_le _, rfl, fun j hj => absurd hj (Nat.not_lt_zero _), hbel2⟩
          case round =>
            obtain ⟨j, hj, rfl, hcl2, hbelj⟩ := hrel
            obtain ⟨b', o', hpe, hcj⟩ := itemsIn_on h hbelj (by omega)
            simp only [Option.some.injEq, Addr.mk.injEq, and_true] at hpe
            obtain ⟨rfl, rfl⟩ := hpe
            by_cases hjk : j < k
            · obtain ⟨y, hy⟩ : ∃ y, its.getD j default = y := ⟨_, rfl⟩
              obtain ⟨n0, n1, n2, n3⟩ := ItemsIn.at hcj (show j < n by omega) hy
              obtain ⟨l0, l1, l2, l3⟩ := ItemsIn.at hcj hlt hx
              dsimp only at l0 l1 l2 l3
              have hmore : ¬ clash y ⟨s, t, d, xp, xn, xc, xs⟩ → Hid (∀ l, l < j + 1 → ¬ clash (its.getD l default) ⟨s, t, d, xp, xn, xc, xs⟩) := fun q l hl1 => by
                rcases Nat.lt_succ_iff_lt_or_eq.1 hl1 with e | e
                · exact hcl2.out l e
                · rw [e, hy]; exact q
              have hend : Hid (clash y ⟨s, t, d, xp, xn, xc, xs⟩ → R = false) := fun q => hno.out k hlt fun ok => (hok.out.1 ok).2.2 j hjk (by rw [hy]; exact q)
              obtain ⟨s', t', d', yp, yn, yc, ys⟩ := y
              dsimp only at n0 n1 n2 n3
              have hcl3 : clash ⟨s', t', d', yp, yn, yc, ys⟩ ⟨s, t, d, xp, xn, xc, xs⟩ ↔ s' = s ∧ t' = t ∧ 0 < t := Iff.rfl
              rw [hcl3] at hmore
              replace hend : Hid (s' = s ∧ t' = t ∧ 0 < t → R = false) := fun q => hend.out (hcl3.2 q)
              clear hcj hcl2 hcl3 hx hy hno hall hdone hI2 hc2 h hok m0 m1 m2 m3 hbel2
              by_cases e1 : s' = s
              · by_cases e2 : t' = t
                · by_cases e3 : 0 < t
                  · have hr := hend.out ⟨e1, e2, e3⟩
                    subst hr
                    subst e1 e2
                    clear hend hmore
                    go_wp2_with (fail)
                    go_quiet (fail)
                    go_wp2_with (fail)
                    go_ret
                    exact ⟨rfl, below_drewN hbelj _⟩
                  · replace hmore := hmore (fun q => e3 q.2.2)
                    subst e1 e2
                    clear hend
                    go_wp2_with (fail)
                    go_quiet (fail)
                    go_wp2_with (fail)
                    go_roundw
                    case rel => exact ⟨j + 1, by omega, by go_num, hmore, below_drewN hbelj _⟩
                    case measure => simp [intOf]; omega
                · replace hmore := hmore (fun q => e2 q.2.1)
                  subst e1
                  have e2' : (t' == t) = false := by simp [e2]
                  clear hend e2
                  go_wp2_with (fail)
                  go_quiet (fail)
                  go_wp2_with (fail)
                  go_roundw
                  case rel => exact ⟨j + 1, by omega, by go_num, hmore, below_drewN hbelj _⟩
                  case measure => simp [intOf]; omega
              · replace hmore := hmore (fun q => e1 q.1)
                have e1' := str_ne e1
                clear hend e1
                go_wp2_with (fail)
                go_quiet (fail)
                go_wp2_with (fail)
                go_roundw
                case rel => exact ⟨j + 1, by omega, by go_num, hmore, below_drewN hbelj _⟩
                case measure => simp [intOf]; omega
            · have hjk2 : j = k := by omega
              subst hjk2
              have hokk : Hid (∀ l, l < j + 1 → okAt its l) := fun l hl1 => by
                rcases Nat.lt_succ_iff_lt_or_eq.1 hl1 with e | e
                · exact hdone.out l e
                · rw [e]; exact hok.out.2 ⟨hb, by have := hcn.out; omega, hcl2.out⟩
              clear hcj hx hno hall hdone hI2 hc2 h hok m0 m1 m2 m3 hbel2 hcl2 hb hcn
              go_wp2_with (fail)
              go_roundw
              case rel => exact ⟨j + 1, by omega, by go_num, hokk, hbelj⟩
              case measure => simp [intOf]; omega
        · have hr := hno.out k hlt (fun q => by have := (hok.out.1 q).2.1; have := hcn.out; omega)
          subst hr
          clear hno hall hok hdone hx hb hcn hc2 hI2
          go_wp2_with (fail)
          refine C2.mono ?_
          rintro z w3 ⟨rfl, rfl⟩
          go_wp2_with (fail)
          go_ret
          exact ⟨rfl, hbel2⟩
    · have hkn : k = n := by omega
      subst hkn
      by_cases e : (k : Int) ≤ 10
      · have hr : R = true := by rw [hall.out hdone]; exact decide_eq_true (by omega)
        subst hr
        clear hno hall hdone
        go_wp2_with (fail)
        go_ret
        exact ⟨rfl, hbel⟩
      · have hr : R = false := by rw [hall.out hdone]; exact decide_eq_false (by omega)
        subst hr
        clear hno hall hdone
        go_wp2_with (fail)
        go_ret
        exact ⟨rfl, hbel⟩

end Go.Proofs.Ytggbmpgpopenoaa
