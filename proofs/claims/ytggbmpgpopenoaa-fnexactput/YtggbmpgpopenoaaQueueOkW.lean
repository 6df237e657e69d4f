/-
  Whether a queue is right, of one item more than a law hands over, as both sides say it. Conditions: items that lie there.
-/
import Derived.Test.YtggbmpgpopenoaaImplQueueOk
namespace Go.Proofs.Ytggbmpgpopenoaa
open Go.RowKit
set_option maxRecDepth 100000

set_option maxHeartbeats 4000000 in
theorem specOfW_any (p : Option Addr) (n c : Nat) (its : List ItA) (s : ByteArray) (w : World) (hn : n ≤ 1048577) (hl : its.length = n) (h : ItemsIn w p n its) :
    Calls Try.prog 25 #[.slice p n c, .string s] w fun e w' => e = .returned (.int .i64 (cntI s its)) ∧ w' = w := by
  go_enter Try.func25, Try.ntmps25
  go_wp2_with (fail)
  go_loopw [5, 6] (fun a i wr => ∃ k : Nat, k ≤ n ∧ i = .int .i64 k ∧ (∃ m : Nat, a = .int .i64 m ∧ Hid (m = cntI s (its.take k)) ∧ m ≤ 1048577) ∧ wr = w) (fun _ i _ => n - (intOf i).toNat)
  case atStart => exact ⟨0, Nat.zero_le _, rfl, ⟨0, rfl, rfl, by omega⟩, rfl⟩
  case round =>
    obtain ⟨k, hk, rfl, ⟨m, rfl, hm, hm1⟩, rfl⟩ := hrel
    by_cases hlt : k < n
    · obtain ⟨b, o, rfl, hc⟩ := h (by omega)
      have h1 : wr.cell? ⟨b, o + k * 4, none⟩ = some (.string (its.getD k default).s) := hc k 0 _ hlt rfl
      have hst := cntI_step s its k (by omega)
      have hle := cntI_le s (its.take (k + 1))
      generalize (its.getD k default).s = u at h1 hst
      clear hc h
      have e1 := str_eq_any u s
      go_wp2_with (fail)
      refine (bit_any _ _).mono ?_
      rintro z w1 ⟨rfl, rfl⟩
      obtain ⟨g, hg⟩ : ∃ g : Nat, g = if u = s then 1 else 0 := ⟨_, rfl⟩
      have eg : (if decide (u = s) = true then (1 : Int) else 0) = (g : Int) := by
        rw [hg]
        by_cases hh : u = s <;> simp [hh]
      rw [eg]
      have hg1 : g ≤ 1 := by rw [hg]; split <;> omega
      have hnew : Hid (m + g = cntI s (its.take (k + 1))) := by rw [Hid, hst, ← hg, ← hm.out]
      have hmg : m + g ≤ 1048577 := by
        have := hnew.out
        have := List.length_take_le (k + 1) its
        rw [List.length_take] at hle
        omega
      clear hg eg e1 hst hle hm
      go_wp2_with (fail)
      go_roundw
      case rel => exact ⟨k + 1, by omega, by go_num, ⟨m + g, by go_num, hnew, hmg⟩, trivial⟩
      case measure => simp [intOf]; omega
    · have hkn : k = n := by omega
      subst hkn
      have hall : Hid (m = cntI s its) := by rw [Hid, hm.out, ← hl, List.take_length]
      clear hm
      go_wp2_with (fail)
      go_ret
      exact ⟨by rw [← hall.out]; rfl, rfl⟩


set_option maxHeartbeats 8000000 in
theorem specQueueOkW_any (p : Option Addr) (n c : Nat) (its : List ItA) (w : World) (hn : n ≤ 1048577) (hl : its.length = n) (h : ItemsIn w p n its) (hs : ∀ x ∈ its, x.s.size ≤ 1048576) :
    Calls Try.prog 27 #[.slice p n c] w fun e w' => e = .returned (.bool (qB its)) ∧ Below w.heap.size w w' := by
  obtain ⟨R, hR⟩ : ∃ R : Bool, R = qB its := ⟨_, rfl⟩
  rw [← hR]
  have hno : Hid (∀ i, i < n → ¬ okAt its i → R = false) := fun i hi hx => by rw [hR]; exact qB_false fun q => hx (q.2 i (by omega))
  have hall : Hid ((∀ i, i < n → okAt its i) → R = decide (n ≤ 10)) := fun ha => by
    rw [hR]
    by_cases e : n ≤ 10
    · rw [decide_eq_true e]; exact qB_true ⟨by omega, fun i hi => ha i (by omega)⟩
    · rw [decide_eq_false e]; exact qB_false fun q => e (by have := q.1; omega)
  clear hR
  go_enter Try.func27, Try.ntmps27
  go_wp2_with (fail)
  go_loopw [3] (fun i wr => ∃ k : Nat, k ≤ n ∧ i = .int .i64 k ∧ Hid (∀ j, j < k → okAt its j) ∧ Below w.heap.size w wr) (fun i _ => n - (intOf i).toNat)
  case atStart => exact ⟨0, Nat.zero_le _, rfl, fun j hj => absurd hj (Nat.not_lt_zero _), Below.refl _ _⟩
  case round =>
    obtain ⟨k, hk, rfl, hdone, hbel⟩ := hrel
    by_cases hlt : k < n
    · have hI := itemsIn_on h hbel
      obtain ⟨b, o, rfl, hc⟩ := hI (by omega)
      obtain ⟨x, hx⟩ : ∃ x, its.getD k default = x := ⟨_, rfl⟩
      obtain ⟨l0, l1, l2, l3⟩ := ItemsIn.at hc hlt hx
      have hsx := hs x (hx ▸ getD_mem (by omega))
      have hok : Hid (okAt its k ↔ itB x.s x.t x.d x.n = true ∧ cntI x.s its ≤ 4 ∧ ∀ j, j < k → ¬ clash (its.getD j default) x) := by rw [Hid, okAt, hx]
      have hle := cntI_le x.s its
      obtain ⟨s, t, d, xp, xn, xc, xs⟩ := x
      dsimp only at l0 l1 l2 l3 hsx hok hle
      have C := specItemOk_any s t d xp xn xc wr hsx
      cases hb : itB s t d xn
      · rw [hb] at C
        have hr := hno.out k hlt (fun q => by have := (hok.out.1 q).1; rw [hb] at this; cases this)
        subst hr
        clear hno hall hok hdone hc hI hx hb
        go_wp2_with (fail)
        refine C.mono ?_
        rintro z w2 ⟨rfl, b2⟩
        have hbel2 := below_on hbel b2
        clear b2 hbel C
        go_wp2_with (fail)
        go_ret
        exact ⟨rfl, hbel2⟩
      · rw [hb] at C
        go_wp2_with (fail)
        refine C.mono ?_
        rintro z w2 ⟨rfl, b2⟩
        have hbel2 := below_on hbel b2
        have hI2 := itemsIn_on h hbel2
        obtain ⟨b', o', hpe, hc2⟩ := hI2 (by omega)
        simp only [Option.some.injEq, Addr.mk.injEq, and_true] at hpe
        obtain ⟨rfl, rfl⟩ := hpe
        obtain ⟨m0, m1, m2, m3⟩ := ItemsIn.at hc2 hlt hx
        dsimp only at m0 m1 m2 m3
        have C2 := specOfW_any (some ⟨b, o, none⟩) n c its s w2 hn hl hI2
        obtain ⟨cn, hcn⟩ : ∃ cn, cn = cntI s its := ⟨_, rfl⟩
        rw [← hcn] at C2
        replace hcn : Hid (cn = cntI s its) := hcn
        have hcl : cn ≤ 1048577 := by have := hcn.out; omega
        clear b2 hbel C hI hc l0 l1 l2 l3 hle
        by_cases h4 : (cn : Int) ≤ 4
        · go_wp2_with (fail)
          refine C2.mono ?_
          rintro z w3 ⟨rfl, rfl⟩
          clear C2
          go_wp2_with (fail)
          go_loopw [4] (fun i wr => ∃ j : Nat, j ≤ k ∧ i = .int .i64 j ∧ Hid (∀ l, l < j → ¬ clash (its.getD l default) ⟨s, t, d, xp, xn, xc, xs⟩) ∧ Below w.heap.size w wr) (fun i _ => k - (intOf i).toNat)
          case atStart => exact ⟨0, Nat.zero_le _, rfl, fun j hj => absurd hj (Nat.not_lt_zero _), hbel2⟩
          case round =>
            obtain ⟨j, hj, rfl, hcl2, hbelj⟩ := hrel
            obtain ⟨b', o', hpe, hcj⟩ := itemsIn_on h hbelj (by omega)
            simp only [Option.some.injEq, Addr.mk.injEq, and_true] at hpe
            obtain ⟨rfl, rfl⟩ := hpe
            by_cases hjk : j < k
            · obtain ⟨y, hy⟩ : ∃ y, its.getD j default = y := ⟨_, rfl⟩
              obtain ⟨n0, n1, n2, n3⟩ := ItemsIn.at hcj (show j < n by omega) hy
              obtain ⟨l0, l1, l2, l3⟩ := ItemsIn.at hcj hlt hx
              dsimp only at l0 l1 l2 l3
              have hmore : ¬ clash y ⟨s, t, d, xp, xn, xc, xs⟩ → Hid (∀ l, l < j + 1 → ¬ clash (its.getD l default) ⟨s, t, d, xp, xn, xc, xs⟩) := fun q l hl1 => by
                rcases Nat.lt_succ_iff_lt_or_eq.1 hl1 with e | e
                · exact hcl2.out l e
                · rw [e, hy]; exact q
              have hend : Hid (clash y ⟨s, t, d, xp, xn, xc, xs⟩ → R = false) := fun q => hno.out k hlt fun ok => (hok.out.1 ok).2.2 j hjk (by rw [hy]; exact q)
              obtain ⟨s', t', d', yp, yn, yc, ys⟩ := y
              dsimp only at n0 n1 n2 n3
              have hcl3 : clash ⟨s', t', d', yp, yn, yc, ys⟩ ⟨s, t, d, xp, xn, xc, xs⟩ ↔ s' = s ∧ t' = t ∧ 0 < t := Iff.rfl
              rw [hcl3] at hmore
              replace hend : Hid (s' = s ∧ t' = t ∧ 0 < t → R = false) := fun q => hend.out (hcl3.2 q)
              clear hcj hcl2 hcl3 hx hy hno hall hdone hI2 hc2 h hok m0 m1 m2 m3 hbel2
              by_cases e1 : s' = s
              · by_cases e2 : t' = t
                · by_cases e3 : 0 < t
                  · have hr := hend.out ⟨e1, e2, e3⟩
                    subst hr
                    subst e1 e2
                    clear hend hmore
                    go_wp2_with (fail)
                    go_quiet (fail)
                    go_wp2_with (fail)
                    go_ret
                    exact ⟨rfl, below_drewN hbelj _⟩
                  · replace hmore := hmore (fun q => e3 q.2.2)
                    subst e1 e2
                    clear hend
                    go_wp2_with (fail)
                    go_quiet (fail)
                    go_wp2_with (fail)
                    go_roundw
                    case rel => exact ⟨j + 1, by omega, by go_num, hmore, below_drewN hbelj _⟩
                    case measure => simp [intOf]; omega
                · replace hmore := hmore (fun q => e2 q.2.1)
                  subst e1
                  have e2' : (t' == t) = false := by simp [e2]
                  clear hend e2
                  go_wp2_with (fail)
                  go_quiet (fail)
                  go_wp2_with (fail)
                  go_roundw
                  case rel => exact ⟨j + 1, by omega, by go_num, hmore, below_drewN hbelj _⟩
                  case measure => simp [intOf]; omega
              · replace hmore := hmore (fun q => e1 q.1)
                have e1' := str_ne e1
                clear hend e1
                go_wp2_with (fail)
                go_quiet (fail)
                go_wp2_with (fail)
                go_roundw
                case rel => exact ⟨j + 1, by omega, by go_num, hmore, below_drewN hbelj _⟩
                case measure => simp [intOf]; omega
            · have hjk2 : j = k := by omega
              subst hjk2
              have hokk : Hid (∀ l, l < j + 1 → okAt its l) := fun l hl1 => by
                rcases Nat.lt_succ_iff_lt_or_eq.1 hl1 with e | e
                · exact hdone.out l e
                · rw [e]; exact hok.out.2 ⟨hb, by have := hcn.out; omega, hcl2.out⟩
              clear hcj hx hno hall hdone hI2 hc2 h hok m0 m1 m2 m3 hbel2 hcl2 hb hcn
              go_wp2_with (fail)
              go_roundw
              case rel => exact ⟨j + 1, by omega, by go_num, hokk, hbelj⟩
              case measure => simp [intOf]; omega
        · have hr := hno.out k hlt (fun q => by have := (hok.out.1 q).2.1; have := hcn.out; omega)
          subst hr
          clear hno hall hok hdone hx hb hcn hc2 hI2
          go_wp2_with (fail)
          refine C2.mono ?_
          rintro z w3 ⟨rfl, rfl⟩
          go_wp2_with (fail)
          go_ret
          exact ⟨rfl, hbel2⟩
    · have hkn : k = n := by omega
      subst hkn
      by_cases e : (k : Int) ≤ 10
      · have hr : R = true := by rw [hall.out hdone]; exact decide_eq_true (by omega)
        subst hr
        clear hno hall hdone
        go_wp2_with (fail)
        go_ret
        exact ⟨rfl, hbel⟩
      · have hr : R = false := by rw [hall.out hdone]; exact decide_eq_false (by omega)
        subst hr
        clear hno hall hdone
        go_wp2_with (fail)
        go_ret
        exact ⟨rfl, hbel⟩


theorem implQueueOkW_any (p : Option Addr) (n c : Nat) (its : List ItA) (w : World) (hn : n ≤ 1048577) (hl : its.length = n) (h : ItemsIn w p n its) (hs : ∀ x ∈ its, x.s.size ≤ 1048576) :
    Calls Try.prog 26 #[.slice p n c] w fun e w' => e = .returned (.bool (qB its)) ∧ Below w.heap.size w w' := by
  by_cases h10 : n ≤ 10
  · exact implQueueOk_any p n c its w (by omega) hl h hs
  · have hr : qB its = false := qB_false fun q => h10 (by have := q.1; omega)
    rw [hr]
    have h11 : (10 : Int) < (n : Int) := by omega
    clear h hl hs hr h10
    go_enter Try.func26, Try.ntmps26
    go_wp2_with (fail)
    go_ret
    exact ⟨rfl, Below.refl _ _⟩

end Go.Proofs.Ytggbmpgpopenoaa
