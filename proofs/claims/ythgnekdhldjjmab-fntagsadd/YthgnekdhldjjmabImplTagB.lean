/-
  The program's numbers of a tag: what goRound and times make of them: a number alike by p whose parts are small, and a product. Conditions: parts below 2 to the 63rd (goRound), small ones (times).
-/
import Derived.Test.YthgnekdhldjjmabImplTagA
import Derived.Lib.SliceRun
import Derived.BigFrame
namespace Go.Proofs.Ythgnekdhldjjmab
open Go.RowKit

def cellN (w : World) (g i : Nat) : Nat := match w.cell? ⟨g, i, none⟩ with | some (.int _ n) => n.toNat | _ => 0
def numW (w : World) (g : Nat) : Nat := valP ((List.range 5).map (cellN w g)) 5
theorem NumIs.num {w : World} {lo g : Nat} {S : List Nat} (h : NumIs w lo g S) : numW w g = val5 S := by
  have e : ∀ i, i < 5 → cellN w g i = S.getD i 0 := fun i hi => by
    unfold cellN
    rw [h.cell i hi]
    rfl
  have hl : (List.range 5).map (cellN w g) = S := by
    apply List.ext_getElem
    · simp [h.1]
    · intro i h1 h2
      simp at h1
      simp only [List.getElem_map, List.getElem_range, e i h1]
      simp [h2]
  unfold numW
  rw [hl]
  rfl

set_option maxRecDepth 100000 in
set_option maxHeartbeats 2400000 in
theorem goRound_any (lo g : Nat) (S : List Nat) (w : World) (hS : lessP 9223372036854775808 S) (h : NumIs w lo g S) :
    Calls Try.prog 17 #[.pointer (some ⟨g, 0, none⟩)] w fun e w' => e = .returned (.tuple #[]) ∧ (∃ V, V < 67108864 ^ 5 ∧ NumIs w' lo g (digL V) ∧ alike V (val5 S)) ∧ w.grownBy w' (some g) := by
  have C := carry_any lo g S w hS h
  have HO : val5 S / 67108864 ^ 5 < 274877906944 := ovP_lt hS 5
  have HA := alike.refl (val5 S)
  generalize hV0 : val5 S = V0 at C HO HA ⊢
  generalize hR0 : V0 / 67108864 ^ 5 = R0 at C HO
  replace hR0 : Hid (V0 / 67108864 ^ 5 = R0) := hR0
  clear hV0 h hS
  go_enter Try.func17, Try.ntmps17
  go_wp2_with (fail)
  refine C.mono ?_
  rintro e w1 ⟨rfl, hn1, hg1⟩
  clear C
  go_wp2_with (fail)
  go_loopw [2] (fun v wr => ∃ V R : Nat, v = .int .u64 (R : Int) ∧ Hid (V / 67108864 ^ 5 = R) ∧ R < 274877906944 ∧ NumIs wr lo g (digL V) ∧ alike V V0 ∧ w.grownBy wr (some g))
    (fun v wr => 67108864 ^ 5 * (intOf v).toNat + numW wr g)
  case atStart => exact ⟨V0, R0, rfl, hR0, HO, hn1, HA, hg1⟩
  case round =>
    clear hn1 hg1 HA HO hR0
    obtain ⟨V, R, rfl, hR, hRl, hn, ha, hg⟩ := hrel
    by_cases hlt : 0 < R
    · have hlt' : (0 : Int) < (R : Int) := by omega
      have e0 := hn.cell 0 (by decide)
      have hfr := hn.frozen 0
      have hd0 := (digL_less V).2 0
      have st := hn.set 0 ((digL V).getD 0 0 + 5 * R)
      have HV : Hid (val5 ((digL V).set 0 ((digL V).getD 0 0 + 5 * R)) = roundP V) := by rw [← hR.out]; exact round_set V
      have hless : lessP 9223372036854775808 ((digL V).set 0 ((digL V).getD 0 0 + 5 * R)) := lessP_set (digL_less V) _ _ (by decide) (by omega)
      have HM : Hid (67108864 ^ 5 * R + numW wr g = V) := by
        rw [Hid, hn.num, val5_digL, ← hR.out, Nat.add_comm]
        exact Nat.mod_add_div V _
      have hlt2 : Hid (roundP V < V) := roundP_lt (by rw [hR.out]; exact hlt)
      have hal : Hid (alike (roundP V) V0) := (roundP_alike V).trans ha
      have hg' := grown_trans hg st.2
      obtain ⟨u, hu⟩ : ∃ u, u = (digL V).getD 0 0 + 5 * R := ⟨_, rfl⟩
      rw [← hu] at st HV hless hg'
      generalize (digL V).getD 0 0 = d at e0 hd0 hu
      have e5 : (5 : Int) * (R : Int) = ((5 * R : Nat) : Int) := by omega
      generalize h5 : 5 * R = r5 at hu e5
      have eu : (d : Int) + (r5 : Int) = (u : Int) := by omega
      have u1 : (u : Int) < 18446744073709551616 := by omega
      have u2 : (r5 : Int) < 18446744073709551616 := by omega
      have n1 := st.1
      generalize (digL V).set 0 u = S1 at HV hless n1
      have CC : ∀ X, X = (wr.setCell ⟨g, 0, none⟩ (.int .u64 (u : Int))).drew → Calls Try.prog 20 #[.pointer (some ⟨g, 0, none⟩)] X fun e w' => ∃ R1 : Nat, e = .returned (.int .u64 (R1 : Int)) ∧ Hid (roundP V / 67108864 ^ 5 = R1) ∧ R1 < 274877906944 ∧ NumIs w' lo g (digL (roundP V)) ∧ X.grownBy w' (some g) := by
        intro X hX
        have nX : NumIs X lo g S1 := by rw [hX]; exact n1
        have cc := carry_any lo g S1 X hless nX
        rw [HV.out] at cc
        have hov := ovP_lt hless 5
        rw [ovP_end, HV.out] at hov
        refine cc.mono ?_
        rintro e w' ⟨rfl, k1, k2⟩
        exact ⟨_, rfl, rfl, hov, k1, k2⟩
      clear hn hg st n1 hu h5 hless HV hR ha
      go_wp2_with (fail)
      go_region
      have hX : Hid (w.grownBy ((wr.setCell ⟨g, 0, none⟩ (.int .u64 (u : Int))).drew) (some g)) := ⟨hg'.os, hg'.tape, hg'.output, hg'.size, hg'.block⟩
      go_wp2_with (fail)
      refine (CC _ rfl).mono ?_
      rintro e w3 ⟨R1, rfl, hR1, hR1l, hn3, hg3⟩
      have hg4 := grown_trans hX.out hg3
      clear CC hX hg3 hg'
      go_wp2
      go_roundw
      case rel => exact ⟨roundP V, R1, rfl, hR1, hR1l, hn3, hal.out, hg4⟩
      case measure =>
        have hm3 : 67108864 ^ 5 * R1 + numW w3 g = roundP V := by
          rw [hn3.num, val5_digL, ← hR1.out, Nat.add_comm]
          exact Nat.mod_add_div _ _
        show 67108864 ^ 5 * R1 + numW w3 g < 67108864 ^ 5 * R + numW wr g
        rw [hm3, HM.out]
        exact hlt2.out
    · obtain rfl : R = 0 := by omega
      have hV : V < 67108864 ^ 5 := (Nat.div_eq_zero_iff_lt (by decide)).1 hR.out
      go_wp2
      go_end0
      exact ⟨rfl, ⟨V, hV, hn, ha⟩, hg⟩

end Go.Proofs.Ythgnekdhldjjmab
