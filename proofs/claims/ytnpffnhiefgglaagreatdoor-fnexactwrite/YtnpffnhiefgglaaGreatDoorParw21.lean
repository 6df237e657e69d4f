/-
  A part of the proof.
-/
import Derived.Test.YtnpffnhiefgglaaGreatDoorParw20
import Derived.Deep.MidRow
import Derived.Deep.WholeRow
import Derived.BigRegion
import Derived.Lib.SliceRun
import Derived.BigFrame
namespace Go.Proofs.YtnpffnhiefgglaaGreatDoor
open Go.RowKit
set_option maxRecDepth 100000
def u64L (l : List Nat) : List Value := l.map fun (n : Nat) => Value.int .u64 (n : Int)
theorem u64L_length (l : List Nat) : (u64L l).length = l.length := by simp [u64L]
theorem u64L_get (l : List Nat) (i : Nat) (h : i < l.length) : (u64L l)[i]? = some (.int .u64 ((l.getD i 0 : Nat) : Int)) := by simp [u64L, List.getElem?_eq_getElem h]
def NumIs (w : World) (lo g : Nat) (S : List Nat) : Prop := S.length = 5 ∧ w.ownsRow lo 179 1 (.slice (some ⟨g, 0, none⟩) 5 5) 5 (u64L S)
theorem NumIs.cell {w : World} {lo g : Nat} {S : List Nat} (h : NumIs w lo g S) (i : Nat) (hi : i < 5) : w.cell? ⟨g, i, none⟩ = some (.int .u64 ((S.getD i 0 : Nat) : Int)) := by
  rw [h.2.cellAt i (by omega), u64L_get _ _ (by have := h.1; omega)]
theorem NumIs.frozen {w : World} {lo g : Nat} {S : List Nat} (h : NumIs w lo g S) (i : Nat) : w.frozen? ⟨g, i, none⟩ = false := h.2.frozenAt i
theorem NumIs.lt {w : World} {lo g : Nat} {S : List Nat} (h : NumIs w lo g S) : lo ≤ g ∧ g < w.heap.size := h.2.lt g rfl
theorem NumIs.below {w w' : World} {lo g : Nat} {S : List Nat} (h : NumIs w lo g S) (hb : Below w.heap.size w w') : NumIs w' lo g S := ⟨h.1, owns_below h.2 hb⟩
theorem NumIs.mono {w : World} {lo lo' g : Nat} {S : List Nat} (h : NumIs w lo g S) (hb : lo' ≤ lo) : NumIs w lo' g S := ⟨h.1, owns_mono h.2 hb⟩
theorem NumIs.kept {w w' : World} {lo g r : Nat} {S : List Nat} (h : NumIs w lo g S) (hg : w.grownBy w' (some r)) (hne : g ≠ r) : NumIs w' lo g S :=
  ⟨h.1, h.2.kept hg (.inr (by simp [Value.ownBlock]; exact fun e => hne e))⟩
theorem NumIs.set {w : World} {lo g : Nat} {S : List Nat} (h : NumIs w lo g S) (k u : Nat) : NumIs (w.setCell ⟨g, k, none⟩ (.int .u64 (u : Int))) lo g (S.set k u) ∧ w.grownBy (w.setCell ⟨g, k, none⟩ (.int .u64 (u : Int))) (some g) := by
  have st := h.2.stored k (.int .u64 (u : Int))
  have e : (u64L S).set k (.int .u64 (u : Int)) = u64L (S.set k u) := by simp [u64L, List.map_set]
  rw [e] at st
  exact ⟨⟨by simpa using h.1, st.1⟩, st.2⟩
theorem u64_mask26 (a : Nat) (h : a < 18446744073709551616) : bits .and .u64 (a : Int) 67108863 = ((a % 67108864 : Nat) : Int) := by
  have e : bits .and .u64 (a : Int) 67108863 = IntKind.u64.wrap ((BitVec.ofInt 64 (a : Int) &&& BitVec.ofInt 64 67108863).toNat : Int) := rfl
  have e1 : (BitVec.ofInt 64 (a : Int)).toNat = a := by rw [BitVec.toNat_ofInt]; omega
  have e2 : (BitVec.ofInt 64 67108863).toNat = 2 ^ 26 - 1 := rfl
  rw [e, BitVec.toNat_and, e1, e2, Nat.and_two_pow_sub_one_eq_mod, IntKind.wrap_u64]
  omega
set_option maxHeartbeats 2400000 in
theorem carry_any (lo g : Nat) (S : List Nat) (w : World) (hS : lessP 9223372036854775808 S) (h : NumIs w lo g S) :
    Calls Tryz.prog 151 #[.pointer (some ⟨g, 0, none⟩)] w fun e w' => e = .returned (.int .u64 ((val5 S / 67108864 ^ 5 : Nat) : Int)) ∧ NumIs w' lo g (digL (val5 S)) ∧ w.grownBy w' (some g) := by
  have hl5 := hS.1
  have HL : Hid (∀ k, ovP S k < 274877906944) := ovP_lt hS
  have HS : Hid (∀ k, S.getD k 0 < 9223372036854775808) := hS.2
  have HD : Hid (∀ k, k < 5 → (ovP S k + S.getD k 0) % 67108864 = (digL (val5 S)).getD k 0) := fun k hk => by rw [ovP_dig S k hk, digL_get _ _ hk]
  have HO : Hid (∀ k, (ovP S k + S.getD k 0) / 67108864 = ovP S (k + 1)) := ovP_step S
  have H5 : Hid (ovP S 5 = val5 S / 67108864 ^ 5) := ovP_end S
  have H0 : Hid (((0 : Nat) : Int) = ((ovP S 0 : Nat) : Int)) := by simp [Hid, ovP, valP]
  have lT := digL_length (val5 S)
  generalize val5 S / 67108864 ^ 5 = R at H5 ⊢
  generalize digL (val5 S) = T at HD lT ⊢
  go_enter Tryz.func151, Tryz.ntmps151
  go_wp2_with (fail)
  go_loopw [3, 5] (fun v i wr => ∃ k : Nat, k ≤ 5 ∧ i = .int .i64 k ∧ v = .int .u64 ((ovP S k : Nat) : Int) ∧ NumIs wr lo g (mixP T S k) ∧ w.grownBy wr (some g))
    (fun _ i _ => 5 - (intOf i).toNat)
  case atStart => exact ⟨0, by omega, rfl, by rw [← H0.out]; rfl, by rw [mixP_start]; exact h, World.grownBy.refl _ _⟩
  case round =>
    clear h H0
    obtain ⟨k, hk, rfl, rfl, hn, hg⟩ := hrel
    by_cases hlt : k < 5
    · have hlt' : (k : Int) < 5 := by omega
      have l1 := HL.out k
      have l2 := HS.out k
      have ed := HD.out k hlt
      have eo := HO.out k
      have e1 := hn.cell k hlt
      rw [mixP_getD lT k hlt] at e1
      have hfr := hn.frozen k
      have st := hn.set k (T.getD k 0)
      rw [mixP_set lT hl5 k hlt _ rfl] at st
      have hg' := grown_trans hg st.2
      have hn' := st.1
      obtain ⟨o', ho'⟩ : ∃ o', o' = ovP S (k + 1) := ⟨_, rfl⟩
      rw [← ho'] at eo
      replace ho' : Hid (o' = ovP S (k + 1)) := ho'
      generalize ovP S k = ov at l1 ed eo ⊢
      generalize S.getD k 0 = s at l2 ed eo e1
      generalize T.getD k 0 = t at ed hg' hn'
      obtain ⟨y, hy⟩ : ∃ y : Nat, y = ov + s := ⟨_, rfl⟩
      have wy : ((ov : Int) + (s : Int)) = (y : Int) := by omega
      have ly : y < 18446744073709551616 := by omega
      have ma := u64_mask26 y ly
      rw [← hy] at ed eo
      rw [ed] at ma
      have eo' : (y : Int) / 67108864 = (o' : Int) := by omega
      clear st hn hg hy ed eo
      go_wp2
      go_roundw
      case rel => exact ⟨k + 1, by omega, by go_num, by rw [ho'.out], hn', hg'⟩
      case measure => simp [intOf]; omega
    · obtain rfl : k = 5 := by omega
      rw [mixP_end lT hl5] at hn
      rw [H5.out]
      go_wp2
      go_ret
      exact ⟨rfl, hn, hg⟩
theorem tdiv_letter {q i : Nat} (h : q / 26 = i) : Int.tdiv (q : Int) 26 = (i : Int) := by
  rw [← h]
  rfl
theorem tmod_letter {q s : Nat} (h : q % 26 = s) : Int.tmod (q : Int) 26 = (s : Int) := by
  rw [← h]
  rfl
set_option maxHeartbeats 2400000 in
theorem putByte_any (lo g : Nat) (S : List Nat) (x p : Nat) (w : World) (hS : lessP 9223372036854775808 S) (hx : x < 256) (hp : p ≤ 16) (h : NumIs w lo g S) :
    Calls Tryz.prog 147 #[.pointer (some ⟨g, 0, none⟩), .int .u8 (x : Int), .int .i64 (p : Int)] w fun e w' => e = .returned (.tuple #[]) ∧ NumIs w' lo g (putP S x p) ∧ w.grownBy w' (some g) := by
  have hsm := put_small (p := p) hx
  unfold putP
  have hs2 := hS.2 (8 * p / 26)
  have hi5 : 8 * p / 26 < 5 := by omega
  have hs26 : 8 * p % 26 < 26 := by omega
  have e1 := h.cell (8 * p / 26) hi5
  have hfr := h.frozen (8 * p / 26)
  have st := h.set (8 * p / 26) (S.getD (8 * p / 26) 0 + x * 2 ^ (8 * p % 26))
  obtain ⟨q, hq⟩ : ∃ q, q = 8 * p := ⟨_, rfl⟩
  rw [← hq] at hsm hs2 hi5 hs26 e1 hfr st ⊢
  obtain ⟨i, hi⟩ : ∃ i, q / 26 = i := ⟨_, rfl⟩
  obtain ⟨s, hs⟩ : ∃ s, q % 26 = s := ⟨_, rfl⟩
  have ti := tdiv_letter hi
  have ts := tmod_letter hs
  rw [hi] at hs2 hi5 e1 hfr st ⊢
  rw [hs] at hsm hs26 st ⊢
  have eq8 : (8 : Int) * (p : Int) = (q : Int) := by omega
  generalize S.getD i 0 = a at hs2 e1 st ⊢
  have eb : (x : Int) * 2 ^ s = ((x * 2 ^ s : Nat) : Int) := by simp
  generalize x * 2 ^ s = b at hsm st eb ⊢
  obtain ⟨u, hu⟩ : ∃ u, u = a + b := ⟨_, rfl⟩
  rw [← hu] at st ⊢
  have eu : (a : Int) + (b : Int) = (u : Int) := by omega
  have ub : u < 18446744073709551616 := by omega
  have ub' : (u : Int) < 18446744073709551616 := by omega
  have bb' : (b : Int) < 18446744073709551616 := by omega
  have i5' : (i : Int) < 5 := by omega
  have i0' : (0 : Int) ≤ (i : Int) := by omega
  have mb : (b : Int) % 18446744073709551616 = (b : Int) := by omega
  have mu : (u : Int) % 18446744073709551616 = (u : Int) := by omega
  clear hS h hu hq hi hs
  go_enter Tryz.func147, Tryz.ntmps147
  go_wp2_with (fail)
  go_region
  go_end0
  exact ⟨rfl, st.1, ⟨st.2.os, st.2.tape, st.2.output, st.2.size, st.2.block⟩⟩
theorem in_apart {w w' : World} {p : Option Addr} {n g : Nat} {xs : List Int} (h : BytesIn w p n xs) (hg : w.grownBy w' (some g)) (hne : ∀ a, p = some a → a.block ≠ g) : BytesIn w' p n xs := by
  intro hn
  obtain ⟨b, o, rfl, hc⟩ := h hn
  refine ⟨b, o, rfl, fun i hi => ?_⟩
  have hb := hne _ rfl
  have hlt : b < w.heap.size := World.block_lt_of_cell? w ⟨b, o + i, none⟩ (hc i hi)
  rw [← hc i hi]
  simp only [World.cell?, hg.block b hlt (fun e => hb (Option.some.inj e))]
set_option maxHeartbeats 2400000 in
theorem put_any (lo g : Nat) (S : List Nat) (p : Option Addr) (n c : Nat) (xs : List Int) (w : World) (hS : lessP 4611686018427387904 S) (hn : n ≤ 16) (hb : ∀ x ∈ xs, 0 ≤ x ∧ x < 256) (hin : BytesIn w p n xs) (hne : ∀ a, p = some a → a.block ≠ g) (h : NumIs w lo g S) :
    Calls Tryz.prog 146 #[.pointer (some ⟨g, 0, none⟩), .slice p n c] w fun e w' => e = .returned (.tuple #[]) ∧ NumIs w' lo g (putsP S (byN xs) n) ∧ w.grownBy w' (some g) := by
  have HB : Hid (∀ i, byN xs i < 256) := byN_lt hb
  have HE : Hid (∀ i, xs.getD i 0 = ((byN xs i : Nat) : Int)) := byN_cast hb
  have HL : Hid (∀ k, k ≤ 16 → lessP 9223372036854775808 (putsP S (byN xs) k)) := fun k hk => (putsP_less hS HB.out k).mono (by omega)
  have HN : Hid (∀ w', w.grownBy w' (some g) → BytesIn w' p n xs) := fun w' hg => in_apart hin hg hne
  clear hS hin hne hb
  go_enter Tryz.func146, Tryz.ntmps146
  go_wp2_with (fail)
  go_loopw [8] (fun i wr => ∃ k : Nat, k ≤ n ∧ i = .int .i64 k ∧ NumIs wr lo g (putsP S (byN xs) k) ∧ w.grownBy wr (some g))
    (fun i _ => n - (intOf i).toNat)
  case atStart => exact ⟨0, by omega, rfl, h, World.grownBy.refl _ _⟩
  case round =>
    clear h
    obtain ⟨k, hk, rfl, hnum, hg⟩ := hrel
    by_cases hlt : k < n
    · have hlt' : (k : Int) < (n : Int) := by omega
      obtain ⟨b, o, hp, hcell⟩ := HN.out wr hg (by omega)
      have e1 := hcell k hlt
      rw [HE.out k] at e1
      have hx := HB.out k
      have C := putByte_any lo g _ (byN xs k) k wr (HL.out k (by omega)) hx (by omega) hnum
      rw [show putP (putsP S (byN xs) k) (byN xs k) k = putsP S (byN xs) (k + 1) from rfl] at C
      generalize byN xs k = x at e1 hx C
      subst hp
      clear hcell hnum HN
      go_wp2_with (fail)
      refine C.mono ?_
      rintro e w2 ⟨rfl, hn2, hg2⟩
      have hg3 := grown_trans hg hg2
      clear C hg hg2
      go_wp2
      go_roundw
      case rel => exact ⟨k + 1, by omega, by go_num, hn2, hg3⟩
      case measure => simp [intOf]; omega
    · obtain rfl : k = n := by omega
      go_wp2
      go_end0
      exact ⟨rfl, hnum, hg⟩
def cellN (w : World) (g i : Nat) : Nat := match w.cell? ⟨g, i, none⟩ with | some (.int _ n) => n.toNat | _ => 0
def numW (w : World) (g : Nat) : Nat := valP ((List.range 5).map (cellN w g)) 5
theorem NumIs.num {w : World} {lo g : Nat} {S : List Nat} (h : NumIs w lo g S) : numW w g = val5 S := by
  have e : ∀ i, i < 5 → cellN w g i = S.getD i 0 := fun i hi => by
    unfold cellN
    rw [h.cell i hi]
    rfl
  have hl : (List.range 5).map (cellN w g) = S := by
    apply List.ext_getElem
    · simp [h.1]
    · intro i h1 h2
      simp at h1
      simp only [List.getElem_map, List.getElem_range, e i h1]
      simp [h2]
  unfold numW
  rw [hl]
  rfl
set_option maxHeartbeats 2400000 in
theorem goRound_any (lo g : Nat) (S : List Nat) (w : World) (hS : lessP 9223372036854775808 S) (h : NumIs w lo g S) :
    Calls Tryz.prog 148 #[.pointer (some ⟨g, 0, none⟩)] w fun e w' => e = .returned (.tuple #[]) ∧ (∃ V, V < 67108864 ^ 5 ∧ NumIs w' lo g (digL V) ∧ alike V (val5 S)) ∧ w.grownBy w' (some g) := by
  have C := carry_any lo g S w hS h
  have HO : val5 S / 67108864 ^ 5 < 274877906944 := ovP_lt hS 5
  have HA := alike.refl (val5 S)
  generalize hV0 : val5 S = V0 at C HO HA ⊢
  generalize hR0 : V0 / 67108864 ^ 5 = R0 at C HO
  replace hR0 : Hid (V0 / 67108864 ^ 5 = R0) := hR0
  clear hV0 h hS
  go_enter Tryz.func148, Tryz.ntmps148
  go_wp2_with (fail)
  refine C.mono ?_
  rintro e w1 ⟨rfl, hn1, hg1⟩
  clear C
  go_wp2_with (fail)
  go_loopw [2] (fun v wr => ∃ V R : Nat, v = .int .u64 (R : Int) ∧ Hid (V / 67108864 ^ 5 = R) ∧ R < 274877906944 ∧ NumIs wr lo g (digL V) ∧ alike V V0 ∧ w.grownBy wr (some g))
    (fun v wr => 67108864 ^ 5 * (intOf v).toNat + numW wr g)
  case atStart => exact ⟨V0, R0, rfl, hR0, HO, hn1, HA, hg1⟩
  case round =>
    clear hn1 hg1 HA HO hR0
    obtain ⟨V, R, rfl, hR, hRl, hn, ha, hg⟩ := hrel
    by_cases hlt : 0 < R
    · have hlt' : (0 : Int) < (R : Int) := by omega
      have e0 := hn.cell 0 (by decide)
      have hfr := hn.frozen 0
      have hd0 := (digL_less V).2 0
      have st := hn.set 0 ((digL V).getD 0 0 + 5 * R)
      have HV : Hid (val5 ((digL V).set 0 ((digL V).getD 0 0 + 5 * R)) = roundP V) := by rw [← hR.out]; exact round_set V
      have hless : lessP 9223372036854775808 ((digL V).set 0 ((digL V).getD 0 0 + 5 * R)) := lessP_set (digL_less V) _ _ (by decide) (by omega)
      have HM : Hid (67108864 ^ 5 * R + numW wr g = V) := by
        rw [Hid, hn.num, val5_digL, ← hR.out, Nat.add_comm]
        exact Nat.mod_add_div V _
      have hlt2 : Hid (roundP V < V) := roundP_lt (by rw [hR.out]; exact hlt)
      have hal : Hid (alike (roundP V) V0) := (roundP_alike V).trans ha
      have hg' := grown_trans hg st.2
      obtain ⟨u, hu⟩ : ∃ u, u = (digL V).getD 0 0 + 5 * R := ⟨_, rfl⟩
      rw [← hu] at st HV hless hg'
      generalize (digL V).getD 0 0 = d at e0 hd0 hu
      have e5 : (5 : Int) * (R : Int) = ((5 * R : Nat) : Int) := by omega
      generalize h5 : 5 * R = r5 at hu e5
      have eu : (d : Int) + (r5 : Int) = (u : Int) := by omega
      have u1 : (u : Int) < 18446744073709551616 := by omega
      have u2 : (r5 : Int) < 18446744073709551616 := by omega
      have n1 := st.1
      generalize (digL V).set 0 u = S1 at HV hless n1
      have CC : ∀ X, X = (wr.setCell ⟨g, 0, none⟩ (.int .u64 (u : Int))).drew → Calls Tryz.prog 151 #[.pointer (some ⟨g, 0, none⟩)] X fun e w' => ∃ R1 : Nat, e = .returned (.int .u64 (R1 : Int)) ∧ Hid (roundP V / 67108864 ^ 5 = R1) ∧ R1 < 274877906944 ∧ NumIs w' lo g (digL (roundP V)) ∧ X.grownBy w' (some g) := by
        intro X hX
        have nX : NumIs X lo g S1 := by rw [hX]; exact n1
        have cc := carry_any lo g S1 X hless nX
        rw [HV.out] at cc
        have hov := ovP_lt hless 5
        rw [ovP_end, HV.out] at hov
        refine cc.mono ?_
        rintro e w' ⟨rfl, k1, k2⟩
        exact ⟨_, rfl, rfl, hov, k1, k2⟩
      clear hn hg st n1 hu h5 hless HV hR ha
      go_wp2_with (fail)
      go_region
      have hX : Hid (w.grownBy ((wr.setCell ⟨g, 0, none⟩ (.int .u64 (u : Int))).drew) (some g)) := ⟨hg'.os, hg'.tape, hg'.output, hg'.size, hg'.block⟩
      go_wp2_with (fail)
      refine (CC _ rfl).mono ?_
      rintro e w3 ⟨R1, rfl, hR1, hR1l, hn3, hg3⟩
      have hg4 := grown_trans hX.out hg3
      clear CC hX hg3 hg'
      go_wp2
      go_roundw
      case rel => exact ⟨roundP V, R1, rfl, hR1, hR1l, hn3, hal.out, hg4⟩
      case measure =>
        have hm3 : 67108864 ^ 5 * R1 + numW w3 g = roundP V := by
          rw [hn3.num, val5_digL, ← hR1.out, Nat.add_comm]
          exact Nat.mod_add_div _ _
        show 67108864 ^ 5 * R1 + numW w3 g < 67108864 ^ 5 * R + numW wr g
        rw [hm3, HM.out]
        exact hlt2.out
    · obtain rfl : R = 0 := by omega
      have hV : V < 67108864 ^ 5 := (Nat.div_eq_zero_iff_lt (by decide)).1 hR.out
      go_wp2
      go_end0
      exact ⟨rfl, ⟨V, hV, hn, ha⟩, hg⟩
theorem five_of {S : List Nat} (h : S.length = 5) : ∃ a b c d e, S = [a, b, c, d, e] := by
  match S, h with
  | [a, b, c, d, e], _ => exact ⟨a, b, c, d, e, rfl⟩
theorem index5 (S : List Nat) (h : S.length = 5) (k : Nat) (hk : k < 5) (w : World) : (Instr.index 179 (.agg (u64L S).toArray) (.int .i64 (k : Int))).run Tryz.prog w = .ok (.int .u64 ((S.getD k 0 : Nat) : Int)) w := by
  obtain ⟨a, b, c, d, e, rfl⟩ := five_of h
  have h0 : (Instr.index 179 (.agg (u64L [a, b, c, d, e]).toArray) (.int .i64 0)).run Tryz.prog w = .ok (.int .u64 (a : Int)) w := by kernel_rfl
  have h1 : (Instr.index 179 (.agg (u64L [a, b, c, d, e]).toArray) (.int .i64 1)).run Tryz.prog w = .ok (.int .u64 (b : Int)) w := by kernel_rfl
  have h2 : (Instr.index 179 (.agg (u64L [a, b, c, d, e]).toArray) (.int .i64 2)).run Tryz.prog w = .ok (.int .u64 (c : Int)) w := by kernel_rfl
  have h3 : (Instr.index 179 (.agg (u64L [a, b, c, d, e]).toArray) (.int .i64 3)).run Tryz.prog w = .ok (.int .u64 (d : Int)) w := by kernel_rfl
  have h4 : (Instr.index 179 (.agg (u64L [a, b, c, d, e]).toArray) (.int .i64 4)).run Tryz.prog w = .ok (.int .u64 (e : Int)) w := by kernel_rfl
  have hc : k = 0 ∨ k = 1 ∨ k = 2 ∨ k = 3 ∨ k = 4 := by omega
  rcases hc with rfl | rfl | rfl | rfl | rfl
  · exact h0
  · exact h1
  · exact h2
  · exact h3
  · exact h4
theorem zero_u64 (w : World) : (zeroValue 110).run Tryz.prog w = .ok (.int .u64 0) w := by kernel_rfl
theorem NumIs.made (w : World) (a b c d e : Nat) : NumIs (w.alloc (.cells #[.int .u64 (a : Int), .int .u64 (b : Int), .int .u64 (c : Int), .int .u64 (d : Int), .int .u64 (e : Int)] 179)) w.heap.size w.heap.size [a, b, c, d, e] :=
  ⟨rfl, rfl, .inr ⟨w.heap.size, 5, _, rfl, Nat.le_refl _, heap_alloc_new w _, Nat.le_refl _, by unfold maxLen; omega, rfl, rfl⟩⟩
theorem numPut {lo e g n c : Nat} (vs : List Value) : ∀ (o : Nat) (w : World) (xs : List Value), o + vs.length = n → xs.length = n → w.ownsRow lo e 1 (.slice (some ⟨g, 0, none⟩) n c) n xs →
    (w.setCells g o vs).ownsRow lo e 1 (.slice (some ⟨g, 0, none⟩) n c) n (xs.take o ++ vs) ∧ w.grownBy (w.setCells g o vs) (some g) := by
  induction vs with
  | nil =>
    intro o w xs h1 h2 h
    rw [List.append_nil, List.take_of_length_le (by simp at h1; omega)]
    exact ⟨h, World.grownBy.refl _ _⟩
  | cons v r ih =>
    intro o w xs h1 h2 h
    have k1 := h.stored o v
    have k2 := ih (o + 1) _ _ (by simp at h1; omega) (by simpa using h2) k1.1
    have e : (xs.set o v).take (o + 1) = xs.take o ++ [v] := by
      rw [List.take_succ_eq_append_getElem (by simp at h1 ⊢; omega), List.take_set_of_le (Nat.le_refl _)]
      simp
    rw [e, List.append_assoc] at k2
    exact ⟨k2.1, grown_trans k1.2 k2.2⟩
theorem NumIs.put {w : World} {lo g : Nat} {S S' : List Nat} (h : NumIs w lo g S) (h' : S'.length = 5) : NumIs (w.setCells g 0 (u64L S')) lo g S' ∧ w.grownBy (w.setCells g 0 (u64L S')) (some g) := by
  have k := numPut (u64L S') 0 w (u64L S) (by rw [u64L_length]; omega) (by rw [u64L_length, h.1]) h.2
  exact ⟨⟨h', by simpa using k.1⟩, k.2⟩
def zero5 : List Nat := [0, 0, 0, 0, 0]
theorem zero5_less : lessP 1 zero5 := by
  refine ⟨rfl, fun i => ?_⟩
  match i with
  | 0 => decide
  | 1 => decide
  | 2 => decide
  | 3 => decide
  | 4 => decide
  | n + 5 => exact Nat.zero_lt_one
theorem val5_zero : val5 zero5 = 0 := by decide
theorem tag_grown {a w : World} {r : Option Nat} (h : Below a.heap.size a w) : a.grownBy w r := ⟨h.os, h.tape, h.output, h.size, fun k hk _ => h.block k hk⟩
set_option maxHeartbeats 4000000 in
theorem times_any (lo g lo' g' : Nat) (S R : List Nat) (w : World) (hS : lessP 67108864 S) (hR : lessP 67108864 R) (h : NumIs w lo g S) (h' : NumIs w lo' g' R) (hne : g' ≠ g) :
    Calls Tryz.prog 149 #[.pointer (some ⟨g, 0, none⟩), .pointer (some ⟨g', 0, none⟩)] w fun e w' => e = .returned (.tuple #[]) ∧ (∃ T, NumIs w' lo g T ∧ lessP 1152921504606846976 T ∧ alike (val5 T) (val5 S * val5 R)) ∧ w.grownBy w' (some g) := by
  have c0 := h.cell 0 (by decide)
  have c1 := h.cell 1 (by decide)
  have c2 := h.cell 2 (by decide)
  have c3 := h.cell 3 (by decide)
  have c4 := h.cell 4 (by decide)
  have HI : Hid (∀ k : Nat, k < 5 → ∀ w : World, (Instr.index 179 (.agg (u64L S).toArray) (.int .i64 (k : Int))).run Tryz.prog w = .ok (.int .u64 ((S.getD k 0 : Nat) : Int)) w) := index5 S hS.1
  obtain ⟨a0, a1, a2, a3, a4, hSe⟩ := five_of hS.1
  have hag : (u64L S).toArray = #[.int .u64 (a0 : Int), .int .u64 (a1 : Int), .int .u64 (a2 : Int), .int .u64 (a3 : Int), .int .u64 (a4 : Int)] := by rw [hSe]; rfl
  rw [hag] at HI
  have f0 : S.getD 0 0 = a0 := by rw [hSe]; rfl
  have f1 : S.getD 1 0 = a1 := by rw [hSe]; rfl
  have f2 : S.getD 2 0 = a2 := by rw [hSe]; rfl
  have f3 : S.getD 3 0 = a3 := by rw [hSe]; rfl
  have f4 : S.getD 4 0 = a4 := by rw [hSe]; rfl
  rw [f0] at c0
  rw [f1] at c1
  rw [f2] at c2
  rw [f3] at c3
  rw [f4] at c4
  obtain ⟨wa, hwa⟩ : ∃ wa, wa = w.alloc (.cells #[.int .u64 (a0 : Int), .int .u64 (a1 : Int), .int .u64 (a2 : Int), .int .u64 (a3 : Int), .int .u64 (a4 : Int)] 179) := ⟨_, rfl⟩
  have bb : Below w.heap.size w wa := by rw [hwa]; exact (Below.refl _ _).alloc (Nat.le_refl _) _
  have nc : NumIs wa w.heap.size w.heap.size S := by rw [hwa, hSe]; exact NumIs.made w a0 a1 a2 a3 a4
  have hga : w.grownBy wa (some g) := tag_grown bb
  have hlg := h.lt.2
  have na := h.below bb
  have nr := h'.below bb
  have hcl : ∀ ty, (Builtin.clear_ #[155] ty #[.slice (some ⟨g, 0, none⟩) 5 5]).run Tryz.prog wa = .ok (.tuple #[]) (wa.setCells g 0 (u64L zero5)) :=
    fun ty => Lib.run_clear_slice wa 155 110 ty (.int .u64 0) Tryz.underlying155 zero_u64 rfl rfl g 0 5 5 (by decide) (fun j hj => by rw [Nat.zero_add, na.cell j hj]; rfl) (fun j hj => by rw [Nat.zero_add]; exact na.frozen j)
  have pz := na.put (S' := zero5) rfl
  obtain ⟨wb, hwb⟩ : ∃ wb, wb = wa.setCells g 0 (u64L zero5) := ⟨_, rfl⟩
  rw [← hwb] at pz hcl
  have nc2 := nc.kept pz.2 (by omega)
  have nr2 := nr.kept pz.2 hne
  have hgb := grown_trans hga pz.2
  have nz := pz.1
  have d0 := nc2.cell 0 (by decide)
  have d1 := nc2.cell 1 (by decide)
  have d2 := nc2.cell 2 (by decide)
  have d3 := nc2.cell 3 (by decide)
  have d4 := nc2.cell 4 (by decide)
  rw [f0] at d0
  rw [f1] at d1
  rw [f2] at d2
  rw [f3] at d3
  rw [f4] at d4
  have HSl : Hid (∀ i, S.getD i 0 < 67108864) := hS.2
  have HRl : Hid (∀ i, R.getD i 0 < 67108864) := hR.2
  clear f0 f1 f2 f3 f4 hSe hag bb nc na nr hga h h' hwb pz nc2
  go_enter Tryz.func149, Tryz.ntmps149
  go_wp2_with (fail)
  rw [← hwa]
  simp only [hcl]
  clear hcl hwa c0 c1 c2 c3 c4
  go_wp2_with (fail)
  clear d0 d1 d2 d3 d4
  go_loopw [16] (fun v wr => ∃ (i : Nat) (T : List Nat), i ≤ 5 ∧ v = .int .i64 i ∧ NumIs wr lo g T ∧ lessP (5 * i * 22517998136852480 + 1) T ∧ Hid (alike (val5 T) (valP S i * val5 R)) ∧ NumIs wr lo' g' R ∧ w.grownBy wr (some g))
    (fun v _ => 5 - (intOf v).toNat)
  case atStart => exact ⟨0, zero5, by omega, rfl, nz, by simpa using zero5_less, by rw [val5_zero, valP, Nat.zero_mul]; rfl, nr2, hgb⟩
  case round =>
    clear nz nr2 hgb
    obtain ⟨i, T, hi, rfl, hn, hT, hal, hr, hg⟩ := hrel
    by_cases hlt : i < 5
    · have hlt' : (i : Int) < 5 := by omega
      have ix := HI.out i hlt
      have hx := HSl.out i
      have hw1 : Hid (valP S (i + 1) = valP S i + S.getD i 0 * 67108864 ^ i) := rfl
      generalize S.getD i 0 = x at ix hx hw1
      go_wp2_with (fail)
      clear ix
      go_loopw [21] (fun v wr => ∃ (j : Nat) (T : List Nat), j ≤ 5 ∧ v = .int .i64 j ∧ NumIs wr lo g T ∧ lessP ((5 * i + j) * 22517998136852480 + 1) T ∧ Hid (alike (val5 T) (valP S i * val5 R + x * 67108864 ^ i * valP R j)) ∧ NumIs wr lo' g' R ∧ w.grownBy wr (some g))
        (fun v _ => 5 - (intOf v).toNat)
      case atStart => exact ⟨0, T, by omega, rfl, hn, hT, by rw [valP, Nat.mul_zero, Nat.add_zero]; exact hal, hr, hg⟩
      case round =>
        clear hn hT hal hr hg
        obtain ⟨j, T, hj, rfl, hn, hT, hal, hr, hg⟩ := hrel
        by_cases hltj : j < 5
        · have hltj' : (j : Int) < 5 := by omega
          have ey := hr.cell j hltj
          have hy := HRl.out j
          have hw2 : Hid (valP R (j + 1) = valP R j + R.getD j 0 * 67108864 ^ j) := rfl
          generalize R.getD j 0 = y at ey hy hw2
          have hxy := part_prod hx hy
          obtain ⟨s, hs⟩ : ∃ s, s = i + j := ⟨_, rfl⟩
          have es : (i : Int) + (j : Int) = (s : Int) := by omega
          go_wp2_with (fail)
          go_quiet (fail)
          obtain ⟨w5, hw5⟩ : ∃ w5, w5 = wr.drewN nq := ⟨_, rfl⟩
          rw [← hw5]
          have b5 : Below wr.heap.size wr w5 := by rw [hw5]; exact below_drewN (Below.refl _ _) _
          clear hw5 ey
          replace hn := hn.below b5
          replace hr := hr.below b5
          replace hg := grown_trans hg (tag_grown (r := some g) b5)
          clear b5
          by_cases hs5 : s < 5
          · have hs5' : (s : Int) < 5 := by omega
            obtain ⟨m, hm⟩ : ∃ m, m = x * y := ⟨_, rfl⟩
            have em : (x : Int) * (y : Int) = (m : Int) := by rw [hm]; simp
            have hml : m ≤ 4503599627370496 := by rw [hm]; exact hxy
            have et := hn.cell s hs5
            have hfr := hn.frozen s
            have ht := hT.2 s
            have st := hn.set s (T.getD s 0 + m)
            have HA : Hid (alike (val5 (T.set s (T.getD s 0 + m))) (valP S i * val5 R + x * 67108864 ^ i * valP R (j + 1))) := by
              rw [hs, hm, times_low T hT.1 i j x y (by omega), hw2.out, Nat.mul_add, ← Nat.add_assoc]
              exact (Hid.out hal).add (alike.refl _)
            have hT' : lessP ((5 * i + (j + 1)) * 22517998136852480 + 1) (T.set s (T.getD s 0 + m)) := lessP_set hT _ _ (by omega) (by omega)
            obtain ⟨u, hu⟩ : ∃ u, u = T.getD s 0 + m := ⟨_, rfl⟩
            rw [← hu] at st HA hT'
            generalize T.getD s 0 = t at et ht hu
            have eu : (t : Int) + (m : Int) = (u : Int) := by omega
            have u1 : (u : Int) < 18446744073709551616 := by omega
            have u2 : (m : Int) < 18446744073709551616 := by omega
            have hg' := grown_trans hg st.2
            have hn' := st.1
            have hr' := hr.kept st.2 hne
            generalize T.set s u = T' at HA hT' hn'
            clear st hn hT hal hr hg hu hw2 hs hxy hm
            go_wp2_with (fail)
            go_region
            all_goals
              go_wp2
              go_roundw
              case rel => exact ⟨j + 1, T', by omega, by go_num, hn', hT', HA, hr', ⟨hg'.os, hg'.tape, hg'.output, hg'.size, hg'.block⟩⟩
              case measure => simp [intOf]; omega
          · obtain ⟨s', hs'⟩ : ∃ s', s' = s - 5 := ⟨_, rfl⟩
            have hs5' : ¬ (s : Int) < 5 := by omega
            have es' : (s : Int) - 5 = (s' : Int) := by omega
            have hss : s' < 5 := by omega
            have hss' : (s' : Int) < 5 := by omega
            obtain ⟨x5, hx5⟩ : ∃ x5, x5 = 5 * x := ⟨_, rfl⟩
            have ex5 : (5 : Int) * (x : Int) = (x5 : Int) := by omega
            have x5l : (x5 : Int) < 18446744073709551616 := by omega
            obtain ⟨m5, hm5⟩ : ∃ m5, m5 = 5 * x * y := ⟨_, rfl⟩
            have em5 : (x5 : Int) * (y : Int) = (m5 : Int) := by rw [hm5, hx5]; simp
            have hm5l : m5 ≤ 22517998136852480 := by rw [hm5, Nat.mul_assoc]; omega
            have et := hn.cell s' hss
            have hfr := hn.frozen s'
            have ht := hT.2 s'
            have st := hn.set s' (T.getD s' 0 + m5)
            have HA : Hid (alike (val5 (T.set s' (T.getD s' 0 + m5))) (valP S i * val5 R + x * 67108864 ^ i * valP R (j + 1))) := by
              rw [hs', hs, hm5, hw2.out, Nat.mul_add, ← Nat.add_assoc]
              exact (times_high T hT.1 i j x y (by omega) hlt hltj).trans ((Hid.out hal).add (alike.refl _))
            have hT' : lessP ((5 * i + (j + 1)) * 22517998136852480 + 1) (T.set s' (T.getD s' 0 + m5)) := lessP_set hT _ _ (by omega) (by omega)
            obtain ⟨u, hu⟩ : ∃ u, u = T.getD s' 0 + m5 := ⟨_, rfl⟩
            rw [← hu] at st HA hT'
            generalize T.getD s' 0 = t at et ht hu
            have eu : (t : Int) + (m5 : Int) = (u : Int) := by omega
            have u1 : (u : Int) < 18446744073709551616 := by omega
            have u2 : (m5 : Int) < 18446744073709551616 := by omega
            have hg' := grown_trans hg st.2
            have hn' := st.1
            have hr' := hr.kept st.2 hne
            generalize T.set s' u = T' at HA hT' hn'
            clear st hn hT hal hr hg hu hw2 hs hxy hs' hx5 hm5
            go_wp2_with (fail)
            go_region
            all_goals
              go_wp2
              go_roundw
              case rel => exact ⟨j + 1, T', by omega, by go_num, hn', hT', HA, hr', ⟨hg'.os, hg'.tape, hg'.output, hg'.size, hg'.block⟩⟩
              case measure => simp [intOf]; omega
        · obtain rfl : j = 5 := by omega
          go_wp2
          go_roundw
          case rel => exact ⟨i + 1, T, by omega, by go_num, hn, hT, by rw [hw1.out, Nat.add_mul]; exact hal, hr, hg⟩
          case measure => simp [intOf]; omega
    · obtain rfl : i = 5 := by omega
      go_wp2
      go_end0
      exact ⟨rfl, ⟨T, hn, hT.mono (by decide), hal⟩, hg⟩
theorem u64L_one (l : List Nat) : ∀ v ∈ u64L l, v.oneCell' = true := by
  intro v hv
  simp only [u64L, List.mem_map] at hv
  obtain ⟨n, _, rfl⟩ := hv
  rfl
theorem infoNum : (Tryz.prog.info? 179).map (fun i => (i.zero, i.size)) = some (some (.agg (u64L zero5).toArray), 5) := by kernel_rfl
theorem NumIs.range {w : World} {lo g : Nat} {S : List Nat} (h : NumIs w lo g S) : w.rangeAt g 0 (u64L S) := by
  intro j v hv
  have hj : j < 5 := by have := (List.getElem?_eq_some_iff.1 hv).1; rw [u64L_length, h.1] at this; exact this
  rw [Nat.zero_add, h.2.cellAt j (by omega), hv]
theorem NumIs.there {w : World} {lo g : Nat} {S : List Nat} (h : NumIs w lo g S) : w.there g 0 5 := by
  intro j hj
  rw [Nat.zero_add, h.cell j hj]
  exact ⟨rfl, h.frozen j⟩
set_option maxHeartbeats 4000000 in
theorem takeRest_any (lo g : Nat) (S : List Nat) (w : World) (hS : lessP 67108864 S) (h : NumIs w lo g S) :
    Calls Tryz.prog 150 #[.pointer (some ⟨g, 0, none⟩)] w fun e w' => e = .returned (.tuple #[]) ∧ (∃ T, NumIs w' lo g T ∧ lessP 67108864 T ∧ val5 T = val5 S % tagP) ∧ w.grownBy w' (some g) := by
  have c0 := h.cell 0 (by decide)
  have c1 := h.cell 1 (by decide)
  have c2 := h.cell 2 (by decide)
  have c3 := h.cell 3 (by decide)
  have c4 := h.cell 4 (by decide)
  have hVl := val5_lt hS
  have hs0 := hS.2 0
  obtain ⟨a0, a1, a2, a3, a4, hSe⟩ := five_of hS.1
  have f0 : S.getD 0 0 = a0 := by rw [hSe]; rfl
  have f1 : S.getD 1 0 = a1 := by rw [hSe]; rfl
  have f2 : S.getD 2 0 = a2 := by rw [hSe]; rfl
  have f3 : S.getD 3 0 = a3 := by rw [hSe]; rfl
  have f4 : S.getD 4 0 = a4 := by rw [hSe]; rfl
  obtain ⟨u, hu⟩ : ∃ u, u = a0 + 5 := ⟨_, rfl⟩
  have HV : val5 [u, a1, a2, a3, a4] = val5 S + 5 := by
    have k := val5_set (S := S) (k := 0) 5 hS.1 (by decide)
    rw [f0, ← hu, Nat.pow_zero, Nat.mul_one, hSe] at k
    rw [hSe]
    exact k
  have hL : lessP 9223372036854775808 [u, a1, a2, a3, a4] := by
    have k := lessP_set (M' := 9223372036854775808) hS 0 u (by decide) (by omega)
    rw [hSe] at k
    exact k
  obtain ⟨wa, hwa⟩ : ∃ wa, wa = w.alloc (.cells #[.int .u64 (u : Int), .int .u64 (a1 : Int), .int .u64 (a2 : Int), .int .u64 (a3 : Int), .int .u64 (a4 : Int)] 179) := ⟨_, rfl⟩
  have bb : Below w.heap.size w wa := by rw [hwa]; exact (Below.refl _ _).alloc (Nat.le_refl _) _
  have nc : NumIs wa w.heap.size w.heap.size [u, a1, a2, a3, a4] := by rw [hwa]; exact NumIs.made w u a1 a2 a3 a4
  have hlg := h.lt.2
  have hlen := hS.1
  rw [f0] at c0 hs0
  rw [f1] at c1
  rw [f2] at c2
  rw [f3] at c3
  rw [f4] at c4
  have eu : (a0 : Int) + 5 = (u : Int) := by omega
  have u1 : (u : Int) < 18446744073709551616 := by omega
  have CC := carry_any _ _ _ _ hL nc
  rw [HV] at CC
  have hov : (val5 S + 5) / 67108864 ^ 5 < 274877906944 := by rw [← HV]; exact ovP_lt hL 5
  have HY : Hid (0 < (val5 S + 5) / 67108864 ^ 5 → (val5 S + 5) % 67108864 ^ 5 = val5 S % tagP) := fun k => rest_yes hVl k
  have HN : Hid (¬ 0 < (val5 S + 5) / 67108864 ^ 5 → val5 S % tagP = val5 S) := fun k => rest_no k
  clear hL HV nc f0 f1 f2 f3 f4 hSe hu
  generalize (val5 S + 5) / 67108864 ^ 5 = R at CC hov HY HN
  have HD := val5_digL (val5 S + 5)
  have HDl := digL_less (val5 S + 5)
  generalize digL (val5 S + 5) = D at CC HD HDl
  have hsz0 := (zero_of_info infoNum).2
  have hszC : (Tryz.prog.info? 179).map (·.size) = some (u64L D).length := by rw [u64L_length, HDl.1]; exact hsz0
  have hszC2 : (Tryz.prog.info? 179).map (·.size) = some (u64L D).toArray.size := by simpa using hszC
  have hone := u64L_one D
  have hsC : (u64L D).toArray.size = 5 := by simp [u64L_length, HDl.1]
  go_enter Tryz.func150, Tryz.ntmps150
  go_wp2_with (fail)
  rw [← hwa]
  refine CC.mono ?_
  rintro e w3 ⟨rfl, n3, g3⟩
  have b3 := bb.grown g3 bb.size (fun k hk => by cases hk; exact Nat.le_refl _)
  have hg3 : w.grownBy w3 (some g) := tag_grown b3
  have h3 := h.below b3
  clear CC hwa bb g3 b3 c0 c1 c2 c3 c4 eu u1
  by_cases hR : 0 < R
  · have hR' : (0 : Int) < (R : Int) := by omega
    have hra := n3.range
    have hth : w3.there g 0 (u64L D).toArray.size := by rw [hsC]; exact h3.there
    have hp := h3.put HDl.1
    have hq := HY.out hR
    rw [hq] at HD
    have hg4 := grown_trans hg3 hp.2
    have n4 := hp.1
    replace HD : Hid (val5 D = val5 S % tagP) := HD
    obtain ⟨Cs, hCs⟩ : ∃ Cs, Cs = u64L D := ⟨_, rfl⟩
    rw [← hCs] at hra hszC hszC2 hth hg4 n4 hone
    clear hp n3 h3 hq HY HN h hCs hsC
    go_wp2_with (first | (refine wpList_load_mid rfl 179 _ rfl w.heap.size 0 rfl Cs _ hra Tryz.underlying179 rfl hszC ?_) | (refine wpList_store_mid rfl 179 _ _ rfl g 0 Cs.toArray rfl rfl hth hszC2 (all_oneCell_toArray hone) ?_))
    go_end0
    exact ⟨rfl, ⟨D, n4, HDl, HD⟩, hg4⟩
  · obtain rfl : R = 0 := by omega
    have hq := HN.out (by omega)
    clear HY HN n3
    go_wp2
    go_end0
    exact ⟨rfl, ⟨S, h3, hS, hq.symm⟩, hg3⟩
theorem shr_letter (x t : Nat) (s : Nat) (h : x / 2 ^ s = t) : (x : Int) / 2 ^ s = (t : Int) := by
  rw [← h]
  simp
theorem u64_or (a b : Nat) (h1 : a < 18446744073709551616) (h2 : b < 18446744073709551616) : bits .or .u64 (a : Int) (b : Int) = ((a ||| b : Nat) : Int) := by
  have hlt : (a ||| b) < 2 ^ 64 := Nat.or_lt_two_pow h1 h2
  have e : bits .or .u64 (a : Int) (b : Int) = IntKind.u64.wrap ((BitVec.ofInt 64 (a : Int) ||| BitVec.ofInt 64 (b : Int)).toNat : Int) := rfl
  have e1 : (BitVec.ofInt 64 (a : Int)).toNat = a := by rw [BitVec.toNat_ofInt]; omega
  have e2 : (BitVec.ofInt 64 (b : Int)).toNat = b := by rw [BitVec.toNat_ofInt]; omega
  rw [e, BitVec.toNat_or, e1, e2, IntKind.wrap_u64]
  omega
theorem byte_two (V p : Nat) : ((digP V (8 * p / 26) / 2 ^ (8 * p % 26)) ||| (digP V (8 * p / 26 + 1) * 2 ^ (26 - 8 * p % 26))) % 256 = V / 256 ^ p % 256 := by
  have h := byte_parts (V / 67108864 ^ (8 * p / 26)) (8 * p % 26) _ _ rfl rfl (by omega)
  rw [byte_at] at h
  rw [← h, digP, digP, Nat.pow_succ, ← Nat.div_div_eq_div_mul]
theorem byte_one (V p : Nat) (h : 8 * p % 26 ≤ 18) : digP V (8 * p / 26) / 2 ^ (8 * p % 26) % 256 = V / 256 ^ p % 256 := by
  rw [digP, byte_last _ _ _ rfl h, byte_at]
set_option maxHeartbeats 2400000 in
theorem byteAt_same (lo g V p : Nat) (w : World) (hp : p < 16) (h : NumIs w lo g (digL V)) :
    Calls Tryz.prog 195 #[.pointer (some ⟨g, 0, none⟩), .int .i64 (p : Int)] w fun e w' => e = .returned (.int .u8 ((V / 256 ^ p % 256 : Nat) : Int)) ∧ w' = w := by
  have hi5 : 8 * p / 26 < 5 := by omega
  have e1 := h.cell _ hi5
  rw [digL_get _ _ hi5] at e1
  have l1 := digP_lt V (8 * p / 26)
  have H2 := byte_two V p
  have H1 := byte_one V p
  have c2 : 8 * p / 26 + 1 < 5 → w.cell? ⟨g, 8 * p / 26 + 1, none⟩ = some (.int .u64 ((digP V (8 * p / 26 + 1) : Nat) : Int)) := fun k => by rw [h.cell _ k, digL_get _ _ k]
  have l2 := digP_lt V (8 * p / 26 + 1)
  generalize V / 256 ^ p % 256 = r at H1 H2 ⊢
  obtain ⟨q, hq⟩ : ∃ q, q = 8 * p := ⟨_, rfl⟩
  rw [← hq] at hi5 e1 l1 H2 H1 c2 l2
  obtain ⟨i, hi⟩ : ∃ i, q / 26 = i := ⟨_, rfl⟩
  obtain ⟨s, hs⟩ : ∃ s, q % 26 = s := ⟨_, rfl⟩
  have ti := tdiv_letter hi
  have ts := tmod_letter hs
  have hs26 : s < 26 := by omega
  have hsp : i = 4 → s ≤ 18 := by omega
  rw [hi] at hi5 e1 l1 H2 H1 c2 l2
  rw [hs] at H2 H1
  have eq8 : (8 : Int) * (p : Int) = (q : Int) := by omega
  generalize digP V i = d at e1 l1 H1 H2
  generalize digP V (i + 1) = d' at c2 l2 H2
  obtain ⟨x, hx⟩ : ∃ x, d / 2 ^ s = x := ⟨_, rfl⟩
  have ex := shr_letter d x s hx
  have lx : x ≤ d := by rw [← hx]; exact Nat.div_le_self _ _
  rw [hx] at H1 H2
  obtain ⟨t, ht⟩ : ∃ t, 26 - s = t := ⟨_, rfl⟩
  have et : (26 : Int) - (s : Int) = (t : Int) := by omega
  rw [ht] at H2
  obtain ⟨i1, hi1⟩ : ∃ i1, i1 = i + 1 := ⟨_, rfl⟩
  have ei1 : (i : Int) + 1 = (i1 : Int) := by omega
  rw [← hi1] at c2
  have i5' : (i : Int) < 5 := by omega
  have i0' : (0 : Int) ≤ (i : Int) := by omega
  have ht26 : t ≤ 26 := by omega
  have y2 : (d' : Int) * 2 ^ t = ((d' * 2 ^ t : Nat) : Int) := by simp
  have ly2 : d' * 2 ^ t ≤ 67108864 * 67108864 := Nat.mul_le_mul (Nat.le_of_lt l2) (Nat.pow_le_pow_right (n := 2) (by decide) ht26)
  generalize d' * 2 ^ t = y at H2 y2 ly2
  have eo := u64_or x y (by omega) (by omega)
  generalize (x ||| y) = z at H2 eo
  have hq8 : q < 128 := by omega
  clear h hx hi hs hq ht
  by_cases hlast : i1 < 5
  · have hl' : (i1 : Int) < 5 := by omega
    have e2 := c2 (by omega)
    have wz : IntKind.u8.wrap (z : Int) = (r : Int) := by rw [IntKind.wrap_u8]; omega
    have mz : (z : Int) % 256 = (r : Int) := by omega
    have my : (y : Int) % 18446744073709551616 = (y : Int) := by omega
    have uy : (y : Int) < 18446744073709551616 := by omega
    clear H1 H2 c2 hsp hi1
    go_enter Tryz.func195, Tryz.ntmps195
    go_wp2
    go_ret
    exact ⟨rfl, rfl⟩
  · have hl' : ¬ (i1 : Int) < 5 := by omega
    have hr := H1 (hsp (by omega))
    have wz : IntKind.u8.wrap (x : Int) = (r : Int) := by rw [IntKind.wrap_u8]; omega
    have mz : (x : Int) % 256 = (r : Int) := by omega
    clear H1 H2 c2 hsp hi1 hr
    go_enter Tryz.func195, Tryz.ntmps195
    go_wp2
    go_ret
    exact ⟨rfl, rfl⟩
def bytesV (V : Nat) : List Int := (List.range 16).map fun i => ((V / 256 ^ i % 256 : Nat) : Int)
theorem bytesV_length (V : Nat) : (bytesV V).length = 16 := by simp [bytesV]
theorem bytesV_get (V i : Nat) (h : i < 16) : (bytesV V).getD i 0 = ((V / 256 ^ i % 256 : Nat) : Int) := by simp [bytesV, h]
set_option maxHeartbeats 2400000 in
theorem numBytes_any (lo g V : Nat) (w : World) (h : NumIs w lo g (digL V)) :
    Calls Tryz.prog 152 #[.pointer (some ⟨g, 0, none⟩)] w fun e w' => ∃ p' c', e = .returned (.slice p' 16 c') ∧ Own 5 w' w.heap.size w'.heap.size (.slice p' 16 c') 16 (bytesV V) ∧ Below w.heap.size w w' := by
  obtain ⟨i0, hi, hz0, hz1, hz2⟩ := info_parts infoByte
  have HB : Hid (∀ X, Below w.heap.size w X → ∀ p : Nat, p < 16 → Calls Tryz.prog 195 #[.pointer (some ⟨g, 0, none⟩), .int .i64 (p : Int)] X fun e w' => e = .returned (.int .u8 ((V / 256 ^ p % 256 : Nat) : Int)) ∧ w' = X) := fun X hX p hp => byteAt_same lo g V p X hp (h.below hX)
  have hx := bytesV_length V
  have HG : Hid (∀ k, k < 16 → ((V / 256 ^ k % 256 : Nat) : Int) = (bytesV V).getD k 0) := fun k hk => (bytesV_get V k hk).symm
  clear h
  generalize bytesV V = xs at hx HG ⊢
  go_enter Tryz.func152, Tryz.ntmps152
  go_wp2_with (at_make; refine wpList_make_full _ rfl _ _ 22 rfl w.heap.size 5 i0 (.int .u8 0) 1 Tryz.underlying22 hi hz0 hz1 _ _ _ _ 16 rfl rfl rfl rfl (by rw [hz2]; omega) (by unfold maxLen; omega) (Nat.le_refl _) ?_)
  intro w1 hown hgrow
  rw [fill_start xs 16] at hown
  have hbel : Below w.heap.size w w1 := (Below.refl _ _).grown hgrow (Nat.le_refl _) (fun _ h => by cases h)
  clear hgrow
  go_wp2
  go_loopw [8] (fun i wr => ∃ k : Nat, k ≤ 16 ∧ i = .int .i64 k ∧ wr.ownsRow w.heap.size 5 1 (.slice (some ⟨w.heap.size, 0, none⟩) 16 16) 16 ((xs.take k ++ List.replicate (16 - k) 0).map (Value.int .u8)) ∧ Below w.heap.size w wr)
    (fun i _ => 16 - (intOf i).toNat)
  case atStart => exact ⟨0, Nat.zero_le _, rfl, hown, hbel⟩
  case round =>
    clear hown hbel
    obtain ⟨k, hk, rfl, hown, hbel⟩ := hrel
    by_cases hlt : k < 16
    · have hlt' : (k : Int) < 16 := by omega
      have C := HB.out wr hbel k hlt
      have hu := HG.out k hlt
      generalize ((V / 256 ^ k % 256 : Nat) : Int) = u at C hu
      have hold : wr.cell? ⟨w.heap.size, k, none⟩ = some (.int .u8 0) := by
        rw [hown.cellAt k (by omega)]; exact fill_old xs 16 k hlt hx
      have hfz := hown.frozenAt k
      have hst := hown.stored k (.int .u8 u)
      rw [fill_step xs 16 k u hu hlt hx] at hst
      have hbel' := hbel.setCell (p := ⟨w.heap.size, k, none⟩) (Nat.le_refl _) (.int .u8 u)
      clear hu hown
      go_wp2_with (fail)
      refine C.mono ?_
      rintro e w2 ⟨rfl, rfl⟩
      clear C
      go_wp2
      go_roundw
      case rel => exact ⟨k + 1, by omega, by go_num, hst.1, hbel'⟩
      case measure => simp [intOf]; omega
    · have hkn : k = 16 := by omega
      subst hkn
      go_wp2
      go_ret
      rw [fill_end xs 16 hx] at hown
      exact ⟨_, _, rfl, .of hown, hbel⟩
theorem and_15b (v : Nat) (hv : v < 256) : bits .and .u8 (v : Int) 15 = ((v % 16 : Nat) : Int) := by
  have e : bits .and .u8 (v : Int) 15 = IntKind.u8.wrap ((BitVec.ofInt 8 (v : Int) &&& BitVec.ofInt 8 15).toNat : Int) := rfl
  have e1 : (BitVec.ofInt 8 (v : Int)).toNat = v := by rw [BitVec.toNat_ofInt]; omega
  have e2 : (BitVec.ofInt 8 15).toNat = 2 ^ 4 - 1 := rfl
  rw [e, BitVec.toNat_and, e1, e2, Nat.and_two_pow_sub_one_eq_mod, IntKind.wrap_u8]
  omega
theorem and_252b (v : Nat) (hv : v < 256) : bits .and .u8 (v : Int) 252 = ((v / 4 * 4 : Nat) : Int) := by
  have e : bits .and .u8 (v : Int) 252 = IntKind.u8.wrap ((BitVec.ofInt 8 (v : Int) &&& BitVec.ofInt 8 252).toNat : Int) := rfl
  have e1 : (BitVec.ofInt 8 (v : Int)).toNat = v := by rw [BitVec.toNat_ofInt]; omega
  have e2 : (BitVec.ofInt 8 252).toNat = 252 := rfl
  rw [e, BitVec.toNat_and, e1, e2, nat_252 v hv, IntKind.wrap_u8]
  omega
theorem dL_less {f g : Nat → Nat} (h : dL f 17 = dL g 17) : dL f 16 = dL g 16 := by
  rw [← dL_step, ← dL_step] at h
  exact List.append_inj_left h (by simp [dL])
theorem dL_bytes {B : List Int} (hl : B.length = 16) (hb : ∀ x ∈ B, 0 ≤ x ∧ x < 256) : B = dL (numD B 16 0) 16 := by
  apply List.ext_getElem
  · simp [dL, hl]
  · intro i h1 h2
    have e := byN_cast hb i
    simp only [List.getD_eq_getElem?_getD, List.getElem?_eq_getElem h1, Option.getD_some] at e
    simp only [dL, List.getElem_map, List.getElem_range, numD, if_pos (show i < 16 by omega)]
    exact e
theorem byN_dL (f : Nat → Nat) (n i : Nat) (hi : i < n) : byN (dL f n) i = f i := by simp [byN, dL, hi]
set_option maxHeartbeats 2400000 in
theorem tagFactor_any (B : List Int) (w : World) (hl : B.length = 16) (hb : ∀ x ∈ B, 0 ≤ x ∧ x < 256) :
    Calls Tryz.prog 145 #[.agg (B.map (Value.int .u8)).toArray] w fun e w' => ∃ g, e = .returned (.pointer (some ⟨g, 0, none⟩)) ∧ NumIs w' w.heap.size g (digL (valN (keyD B) 17)) ∧ Below w.heap.size w w' := by
  have HB : Hid (∀ i, numD B 16 0 i < 256) := numD_lt hb (by decide)
  have hown : (w.alloc (.cells (B.map (Value.int .u8)).toArray 177)).ownsRow w.heap.size 177 1 (.slice (some ⟨w.heap.size, 0, none⟩) 16 16) 16 (B.map (Value.int .u8)) :=
    ⟨by simpa using hl, .inr ⟨w.heap.size, 16, _, rfl, Nat.le_refl _, heap_alloc_new w _, Nat.le_refl _, by unfold maxLen; omega, by simp [hl], by rw [List.take_of_length_le (by simp [hl])]⟩⟩
  rw [show B.map (Value.int .u8) = (dL (key1 B 0) 16).map (Value.int .u8) from by rw [← dL_less (key1_start B)]; exact congrArg _ (dL_bytes hl hb)] at hown ⊢
  have HV : Hid (∀ i, keyD B i < 256) := keyD_lt hb
  generalize ((dL (key1 B 0) 16).map (Value.int .u8)).toArray = A at hown
  have bel : Below w.heap.size w (w.alloc (.cells A 177)) := (Below.refl _ _).alloc (Nat.le_refl _) _
  go_enter Tryz.func145, Tryz.ntmps145
  go_wp2_with (fail)
  go_loopw [3] (fun i wr => ∃ k : Nat, k ≤ 4 ∧ i = .int .i64 ((3 + 4 * k : Nat) : Int) ∧ wr.ownsRow w.heap.size 177 1 (.slice (some ⟨w.heap.size, 0, none⟩) 16 16) 16 ((dL (key1 B k) 16).map (Value.int .u8)) ∧ Below w.heap.size w wr)
    (fun i _ => 20 - (intOf i).toNat)
  case atStart => exact ⟨0, by omega, rfl, hown, bel⟩
  case round =>
    clear hown bel
    obtain ⟨k, hk, rfl, hown, bel⟩ := hrel
    by_cases hlt : k < 4
    · obtain ⟨j, hj⟩ : ∃ j : Nat, j = 3 + 4 * k := ⟨_, rfl⟩
      have hgk := key1_get B k
      have st0 := hown.stored (3 + 4 * k) (.int .u8 ((numD B 16 0 (3 + 4 * k) % 16 : Nat) : Int))
      rw [← List.map_set, dL_set, dL_less (key1_step B k)] at st0
      have e1 : wr.cell? ⟨w.heap.size, 3 + 4 * k, none⟩ = some (.int .u8 ((numD B 16 0 (3 + 4 * k) : Nat) : Int)) := by
        rw [hown.cellAt _ (by omega), List.getElem?_map]
        simp [dL, hgk, show 3 + 4 * k < 16 by omega]
      have hfr := hown.frozenAt (3 + 4 * k)
      have hv := HB.out (3 + 4 * k)
      have hj4 : ((3 + 4 * (k + 1) : Nat) : Int) = (j : Int) + 4 := by omega
      rw [← hj] at st0 e1 hfr hv ⊢
      have lj : (j : Int) < 16 := by omega
      generalize numD B 16 0 j = v at st0 e1 hv
      obtain ⟨v', hv'⟩ : ∃ v' : Nat, v' = v % 16 := ⟨_, rfl⟩
      have ea := and_15b v (by omega)
      rw [← hv'] at ea st0
      have st' := st0.1
      have hb' := bel.grown st0.2 bel.size (fun k hk => by cases hk; exact Nat.le_refl _)
      have hm : j < 20 := by omega
      clear st0 hown hj hgk hv'
      go_wp2_with (fail)
      go_roundw
      case rel => exact ⟨k + 1, by omega, by rw [hj4], st', hb'⟩
      case measure => simp [intOf]; omega
    · obtain rfl : k = 4 := by omega
      rw [dL_less (key2_start B)] at hown
      go_wp2_with (fail)
      go_loopw [4] (fun i wr => ∃ k : Nat, k ≤ 3 ∧ i = .int .i64 ((4 + 4 * k : Nat) : Int) ∧ wr.ownsRow w.heap.size 177 1 (.slice (some ⟨w.heap.size, 0, none⟩) 16 16) 16 ((dL (key2 B k) 16).map (Value.int .u8)) ∧ Below w.heap.size w wr)
        (fun i _ => 20 - (intOf i).toNat)
      case atStart => exact ⟨0, by omega, rfl, hown, bel⟩
      case round =>
        clear hown bel
        obtain ⟨k, hk, rfl, hown, bel⟩ := hrel
        by_cases hlt : k < 3
        · obtain ⟨j, hj⟩ : ∃ j : Nat, j = 4 + 4 * k := ⟨_, rfl⟩
          have hgk := key2_get B k
          have st0 := hown.stored (4 + 4 * k) (.int .u8 ((numD B 16 0 (4 + 4 * k) / 4 * 4 : Nat) : Int))
          rw [← List.map_set, dL_set, dL_less (key2_step B k)] at st0
          have e1 : wr.cell? ⟨w.heap.size, 4 + 4 * k, none⟩ = some (.int .u8 ((numD B 16 0 (4 + 4 * k) : Nat) : Int)) := by
            rw [hown.cellAt _ (by omega), List.getElem?_map]
            simp [dL, hgk, show 4 + 4 * k < 16 by omega]
          have hfr := hown.frozenAt (4 + 4 * k)
          have hv := HB.out (4 + 4 * k)
          have hj4 : ((4 + 4 * (k + 1) : Nat) : Int) = (j : Int) + 4 := by omega
          rw [← hj] at st0 e1 hfr hv ⊢
          have lj : (j : Int) < 16 := by omega
          generalize numD B 16 0 j = v at st0 e1 hv
          obtain ⟨v', hv'⟩ : ∃ v' : Nat, v' = v / 4 * 4 := ⟨_, rfl⟩
          have ea := and_252b v hv
          rw [← hv'] at ea st0
          have st' := st0.1
          have hb' := bel.grown st0.2 bel.size (fun k hk => by cases hk; exact Nat.le_refl _)
          have hm : j < 20 := by omega
          clear st0 hown hj hgk hv'
          go_wp2_with (fail)
          go_roundw
          case rel => exact ⟨k + 1, by omega, by rw [hj4], st', hb'⟩
          case measure => simp [intOf]; omega
        · obtain rfl : k = 3 := by omega
          rw [dL_less (key2_end B)] at hown
          have hin : BytesIn wr (some ⟨w.heap.size, 0, none⟩) 16 (dL (keyD B) 16) := owns_in hown
          have hsz := (hown.lt _ rfl).2
          obtain ⟨wn, hwn⟩ : ∃ wn, wn = wr.alloc (.cells #[.int .u64 0, .int .u64 0, .int .u64 0, .int .u64 0, .int .u64 0] 179) := ⟨_, rfl⟩
          have bz : Below wr.heap.size wr wn := by rw [hwn]; exact (Below.refl _ _).alloc (Nat.le_refl _) _
          have nz : NumIs wn wr.heap.size wr.heap.size zero5 := by rw [hwn]; exact NumIs.made wr 0 0 0 0 0
          have hbk : ∀ x ∈ dL (keyD B) 16, 0 ≤ x ∧ x < 256 := by
            intro x hx
            simp only [dL, List.mem_map] at hx
            obtain ⟨i, _, rfl⟩ := hx
            have := HV.out i
            omega
          have CP := put_any wr.heap.size wr.heap.size zero5 (some ⟨w.heap.size, 0, none⟩) 16 16 (dL (keyD B) 16) wn (zero5_less.mono (by decide)) (by omega) hbk (in_below hin bz) (fun a ha => by cases ha; exact Nat.ne_of_lt hsz) nz
          have hPl : lessP 9223372036854775808 (putsP zero5 (byN (dL (keyD B) 16)) 16) := (putsP_less zero5_less (byN_lt hbk) 16).mono (by decide)
          have hPv : Hid (val5 (putsP zero5 (byN (dL (keyD B) 16)) 16) = valN (keyD B) 17) := by
            rw [Hid, (putsP_val (byN (dL (keyD B) 16)) rfl 16 (by decide)).2, val5_zero, Nat.zero_add, valN_congr (g := keyD B) (fun i hi => byN_dL _ _ _ hi)]
            show _ = valN (keyD B) 16 + keyD B 16 * 256 ^ 16
            rw [show keyD B 16 = 0 from rfl, Nat.zero_mul, Nat.add_zero]
          generalize putsP zero5 (byN (dL (keyD B) 16)) 16 = P0 at CP hPl hPv
          clear hin hown hbk
          go_wp2_with (fail)
          rw [← hwn]
          refine CP.mono ?_
          rintro e w4 ⟨rfl, n4, g4⟩
          have CA := carry_any _ _ _ _ hPl n4
          rw [hPv.out] at CA
          have b4 : Below wr.heap.size wr w4 := bz.grown g4 bz.size (fun k hk => by cases hk; exact Nat.le_refl _)
          clear CP nz hwn bz n4 g4
          go_wp2_with (fail)
          refine CA.mono ?_
          rintro e w5 ⟨rfl, n5, g5⟩
          have b5 : Below wr.heap.size wr w5 := b4.grown g5 b4.size (fun k hk => by cases hk; exact Nat.le_refl _)
          clear CA
          go_wp2_with (fail)
          go_ret
          exact ⟨_, rfl, n5.mono bel.size, below_on bel b5⟩
end Go.Proofs.YtnpffnhiefgglaaGreatDoor
