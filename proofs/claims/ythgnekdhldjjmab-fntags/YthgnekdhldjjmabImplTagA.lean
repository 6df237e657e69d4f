/-
  The program's numbers of a tag (five parts in a block that the call made): what carry, putByte and put make of them. Conditions: each part below 2 to the 63rd; bytes; at most 17 places.
-/
import Derived.Test.YthgnekdhldjjmabTagNum
import Derived.Deep.MidRow
import Derived.Deep.WholeRow
import Derived.BigRegion
namespace Go.Proofs.Ythgnekdhldjjmab
open Go.RowKit

def u64L (l : List Nat) : List Value := l.map fun (n : Nat) => Value.int .u64 (n : Int)
theorem u64L_length (l : List Nat) : (u64L l).length = l.length := by simp [u64L]
theorem u64L_get (l : List Nat) (i : Nat) (h : i < l.length) : (u64L l)[i]? = some (.int .u64 ((l.getD i 0 : Nat) : Int)) := by simp [u64L, List.getElem?_eq_getElem h]
/-- Five parts in a block g of their own. -/
def NumIs (w : World) (lo g : Nat) (S : List Nat) : Prop := S.length = 5 ∧ w.ownsRow lo 38 1 (.slice (some ⟨g, 0, none⟩) 5 5) 5 (u64L S)
theorem NumIs.cell {w : World} {lo g : Nat} {S : List Nat} (h : NumIs w lo g S) (i : Nat) (hi : i < 5) : w.cell? ⟨g, i, none⟩ = some (.int .u64 ((S.getD i 0 : Nat) : Int)) := by
  rw [h.2.cellAt i (by omega), u64L_get _ _ (by have := h.1; omega)]
theorem NumIs.frozen {w : World} {lo g : Nat} {S : List Nat} (h : NumIs w lo g S) (i : Nat) : w.frozen? ⟨g, i, none⟩ = false := h.2.frozenAt i
theorem NumIs.lt {w : World} {lo g : Nat} {S : List Nat} (h : NumIs w lo g S) : lo ≤ g ∧ g < w.heap.size := h.2.lt g rfl
theorem NumIs.below {w w' : World} {lo g : Nat} {S : List Nat} (h : NumIs w lo g S) (hb : Below w.heap.size w w') : NumIs w' lo g S := ⟨h.1, owns_below h.2 hb⟩
theorem NumIs.mono {w : World} {lo lo' g : Nat} {S : List Nat} (h : NumIs w lo g S) (hb : lo' ≤ lo) : NumIs w lo' g S := ⟨h.1, owns_mono h.2 hb⟩
theorem NumIs.kept {w w' : World} {lo g r : Nat} {S : List Nat} (h : NumIs w lo g S) (hg : w.grownBy w' (some r)) (hne : g ≠ r) : NumIs w' lo g S :=
  ⟨h.1, h.2.kept hg (.inr (by simp [Value.ownBlock]; exact fun e => hne e))⟩
theorem NumIs.set {w : World} {lo g : Nat} {S : List Nat} (h : NumIs w lo g S) (k u : Nat) : NumIs (w.setCell ⟨g, k, none⟩ (.int .u64 (u : Int))) lo g (S.set k u) ∧ w.grownBy (w.setCell ⟨g, k, none⟩ (.int .u64 (u : Int))) (some g) := by
  have st := h.2.stored k (.int .u64 (u : Int))
  have e : (u64L S).set k (.int .u64 (u : Int)) = u64L (S.set k u) := by simp [u64L, List.map_set]
  rw [e] at st
  exact ⟨⟨by simpa using h.1, st.1⟩, st.2⟩

theorem u64_mask26 (a : Nat) (h : a < 18446744073709551616) : bits .and .u64 (a : Int) 67108863 = ((a % 67108864 : Nat) : Int) := by
  have e : bits .and .u64 (a : Int) 67108863 = IntKind.u64.wrap ((BitVec.ofInt 64 (a : Int) &&& BitVec.ofInt 64 67108863).toNat : Int) := rfl
  have e1 : (BitVec.ofInt 64 (a : Int)).toNat = a := by rw [BitVec.toNat_ofInt]; omega
  have e2 : (BitVec.ofInt 64 67108863).toNat = 2 ^ 26 - 1 := rfl
  rw [e, BitVec.toNat_and, e1, e2, Nat.and_two_pow_sub_one_eq_mod, IntKind.wrap_u64]
  omega

set_option maxRecDepth 100000 in
set_option maxHeartbeats 2400000 in
theorem carry_any (lo g : Nat) (S : List Nat) (w : World) (hS : lessP 9223372036854775808 S) (h : NumIs w lo g S) :
    Calls Try.prog 20 #[.pointer (some ⟨g, 0, none⟩)] w fun e w' => e = .returned (.int .u64 ((val5 S / 67108864 ^ 5 : Nat) : Int)) ∧ NumIs w' lo g (digL (val5 S)) ∧ w.grownBy w' (some g) := by
  have hl5 := hS.1
  have HL : Hid (∀ k, ovP S k < 274877906944) := ovP_lt hS
  have HS : Hid (∀ k, S.getD k 0 < 9223372036854775808) := hS.2
  have HD : Hid (∀ k, k < 5 → (ovP S k + S.getD k 0) % 67108864 = (digL (val5 S)).getD k 0) := fun k hk => by rw [ovP_dig S k hk, digL_get _ _ hk]
  have HO : Hid (∀ k, (ovP S k + S.getD k 0) / 67108864 = ovP S (k + 1)) := ovP_step S
  have H5 : Hid (ovP S 5 = val5 S / 67108864 ^ 5) := ovP_end S
  have H0 : Hid (((0 : Nat) : Int) = ((ovP S 0 : Nat) : Int)) := by simp [Hid, ovP, valP]
  have lT := digL_length (val5 S)
  generalize val5 S / 67108864 ^ 5 = R at H5 ⊢
  generalize digL (val5 S) = T at HD lT ⊢
  go_enter Try.func20, Try.ntmps20
  go_wp2_with (fail)
  go_loopw [3, 5] (fun v i wr => ∃ k : Nat, k ≤ 5 ∧ i = .int .i64 k ∧ v = .int .u64 ((ovP S k : Nat) : Int) ∧ NumIs wr lo g (mixP T S k) ∧ w.grownBy wr (some g))
    (fun _ i _ => 5 - (intOf i).toNat)
  case atStart => exact ⟨0, by omega, rfl, by rw [← H0.out]; rfl, by rw [mixP_start]; exact h, World.grownBy.refl _ _⟩
  case round =>
    clear h H0
    obtain ⟨k, hk, rfl, rfl, hn, hg⟩ := hrel
    by_cases hlt : k < 5
    · have hlt' : (k : Int) < 5 := by omega
      have l1 := HL.out k
      have l2 := HS.out k
      have ed := HD.out k hlt
      have eo := HO.out k
      have e1 := hn.cell k hlt
      rw [mixP_getD lT k hlt] at e1
      have hfr := hn.frozen k
      have st := hn.set k (T.getD k 0)
      rw [mixP_set lT hl5 k hlt _ rfl] at st
      have hg' := grown_trans hg st.2
      have hn' := st.1
      obtain ⟨o', ho'⟩ : ∃ o', o' = ovP S (k + 1) := ⟨_, rfl⟩
      rw [← ho'] at eo
      replace ho' : Hid (o' = ovP S (k + 1)) := ho'
      generalize ovP S k = ov at l1 ed eo ⊢
      generalize S.getD k 0 = s at l2 ed eo e1
      generalize T.getD k 0 = t at ed hg' hn'
      obtain ⟨y, hy⟩ : ∃ y : Nat, y = ov + s := ⟨_, rfl⟩
      have wy : ((ov : Int) + (s : Int)) = (y : Int) := by omega
      have ly : y < 18446744073709551616 := by omega
      have ma := u64_mask26 y ly
      rw [← hy] at ed eo
      rw [ed] at ma
      have eo' : (y : Int) / 67108864 = (o' : Int) := by omega
      clear st hn hg hy ed eo
      go_wp2
      go_roundw
      case rel => exact ⟨k + 1, by omega, by go_num, by rw [ho'.out], hn', hg'⟩
      case measure => simp [intOf]; omega
    · obtain rfl : k = 5 := by omega
      rw [mixP_end lT hl5] at hn
      rw [H5.out]
      go_wp2
      go_ret
      exact ⟨rfl, hn, hg⟩

theorem tdiv_letter {q i : Nat} (h : q / 26 = i) : Int.tdiv (q : Int) 26 = (i : Int) := by
  rw [← h]
  rfl
theorem tmod_letter {q s : Nat} (h : q % 26 = s) : Int.tmod (q : Int) 26 = (s : Int) := by
  rw [← h]
  rfl

set_option maxRecDepth 100000 in
set_option maxHeartbeats 2400000 in
theorem putByte_any (lo g : Nat) (S : List Nat) (x p : Nat) (w : World) (hS : lessP 9223372036854775808 S) (hx : x < 256) (hp : p ≤ 16) (h : NumIs w lo g S) :
    Calls Try.prog 16 #[.pointer (some ⟨g, 0, none⟩), .int .u8 (x : Int), .int .i64 (p : Int)] w fun e w' => e = .returned (.tuple #[]) ∧ NumIs w' lo g (putP S x p) ∧ w.grownBy w' (some g) := by
  have hsm := put_small (p := p) hx
  unfold putP
  have hs2 := hS.2 (8 * p / 26)
  have hi5 : 8 * p / 26 < 5 := by omega
  have hs26 : 8 * p % 26 < 26 := by omega
  have e1 := h.cell (8 * p / 26) hi5
  have hfr := h.frozen (8 * p / 26)
  have st := h.set (8 * p / 26) (S.getD (8 * p / 26) 0 + x * 2 ^ (8 * p % 26))
  obtain ⟨q, hq⟩ : ∃ q, q = 8 * p := ⟨_, rfl⟩
  rw [← hq] at hsm hs2 hi5 hs26 e1 hfr st ⊢
  obtain ⟨i, hi⟩ : ∃ i, q / 26 = i := ⟨_, rfl⟩
  obtain ⟨s, hs⟩ : ∃ s, q % 26 = s := ⟨_, rfl⟩
  have ti := tdiv_letter hi
  have ts := tmod_letter hs
  rw [hi] at hs2 hi5 e1 hfr st ⊢
  rw [hs] at hsm hs26 st ⊢
  have eq8 : (8 : Int) * (p : Int) = (q : Int) := by omega
  generalize S.getD i 0 = a at hs2 e1 st ⊢
  have eb : (x : Int) * 2 ^ s = ((x * 2 ^ s : Nat) : Int) := by simp
  generalize x * 2 ^ s = b at hsm st eb ⊢
  obtain ⟨u, hu⟩ : ∃ u, u = a + b := ⟨_, rfl⟩
  rw [← hu] at st ⊢
  have eu : (a : Int) + (b : Int) = (u : Int) := by omega
  have ub : u < 18446744073709551616 := by omega
  have ub' : (u : Int) < 18446744073709551616 := by omega
  have bb' : (b : Int) < 18446744073709551616 := by omega
  have i5' : (i : Int) < 5 := by omega
  have i0' : (0 : Int) ≤ (i : Int) := by omega
  have mb : (b : Int) % 18446744073709551616 = (b : Int) := by omega
  have mu : (u : Int) % 18446744073709551616 = (u : Int) := by omega
  clear hS h hu hq hi hs
  go_enter Try.func16, Try.ntmps16
  go_wp2_with (fail)
  go_region
  go_end0
  exact ⟨rfl, st.1, ⟨st.2.os, st.2.tape, st.2.output, st.2.size, st.2.block⟩⟩

theorem in_apart {w w' : World} {p : Option Addr} {n g : Nat} {xs : List Int} (h : BytesIn w p n xs) (hg : w.grownBy w' (some g)) (hne : ∀ a, p = some a → a.block ≠ g) : BytesIn w' p n xs := by
  intro hn
  obtain ⟨b, o, rfl, hc⟩ := h hn
  refine ⟨b, o, rfl, fun i hi => ?_⟩
  have hb := hne _ rfl
  have hlt : b < w.heap.size := World.block_lt_of_cell? w ⟨b, o + i, none⟩ (hc i hi)
  rw [← hc i hi]
  simp only [World.cell?, hg.block b hlt (fun e => hb (Option.some.inj e))]

set_option maxRecDepth 100000 in
set_option maxHeartbeats 2400000 in
theorem put_any (lo g : Nat) (S : List Nat) (p : Option Addr) (n c : Nat) (xs : List Int) (w : World) (hS : lessP 4611686018427387904 S) (hn : n ≤ 16) (hb : ∀ x ∈ xs, 0 ≤ x ∧ x < 256) (hin : BytesIn w p n xs) (hne : ∀ a, p = some a → a.block ≠ g) (h : NumIs w lo g S) :
    Calls Try.prog 15 #[.pointer (some ⟨g, 0, none⟩), .slice p n c] w fun e w' => e = .returned (.tuple #[]) ∧ NumIs w' lo g (putsP S (byN xs) n) ∧ w.grownBy w' (some g) := by
  have HB : Hid (∀ i, byN xs i < 256) := byN_lt hb
  have HE : Hid (∀ i, xs.getD i 0 = ((byN xs i : Nat) : Int)) := byN_cast hb
  have HL : Hid (∀ k, k ≤ 16 → lessP 9223372036854775808 (putsP S (byN xs) k)) := fun k hk => (putsP_less hS HB.out k).mono (by omega)
  have HN : Hid (∀ w', w.grownBy w' (some g) → BytesIn w' p n xs) := fun w' hg => in_apart hin hg hne
  clear hS hin hne hb
  go_enter Try.func15, Try.ntmps15
  go_wp2_with (fail)
  go_loopw [8] (fun i wr => ∃ k : Nat, k ≤ n ∧ i = .int .i64 k ∧ NumIs wr lo g (putsP S (byN xs) k) ∧ w.grownBy wr (some g))
    (fun i _ => n - (intOf i).toNat)
  case atStart => exact ⟨0, by omega, rfl, h, World.grownBy.refl _ _⟩
  case round =>
    clear h
    obtain ⟨k, hk, rfl, hnum, hg⟩ := hrel
    by_cases hlt : k < n
    · have hlt' : (k : Int) < (n : Int) := by omega
      obtain ⟨b, o, hp, hcell⟩ := HN.out wr hg (by omega)
      have e1 := hcell k hlt
      rw [HE.out k] at e1
      have hx := HB.out k
      have C := putByte_any lo g _ (byN xs k) k wr (HL.out k (by omega)) hx (by omega) hnum
      rw [show putP (putsP S (byN xs) k) (byN xs k) k = putsP S (byN xs) (k + 1) from rfl] at C
      generalize byN xs k = x at e1 hx C
      subst hp
      clear hcell hnum HN
      go_wp2_with (fail)
      refine C.mono ?_
      rintro e w2 ⟨rfl, hn2, hg2⟩
      have hg3 := grown_trans hg hg2
      clear C hg hg2
      go_wp2
      go_roundw
      case rel => exact ⟨k + 1, by omega, by go_num, hn2, hg3⟩
      case measure => simp [intOf]; omega
    · obtain rfl : k = n := by omega
      go_wp2
      go_end0
      exact ⟨rfl, hnum, hg⟩

end Go.Proofs.Ythgnekdhldjjmab
