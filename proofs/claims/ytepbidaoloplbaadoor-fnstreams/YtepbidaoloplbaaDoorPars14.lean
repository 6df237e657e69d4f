/-
  What slices.Grow of nil and slices.Concat of slices of bytes do: a row of the call's own, empty with room; the bytes of all, one behind the other. Conditions: at least one byte, and at most 2^30.
  What slices.Grow of nil and slices.Concat of slices of bytes do: a row of the call's own, empty with room; the bytes of all, one behind the other. Conditions: at least one byte, and at most 2^30.
  What the specification's Quarter answers at whatever arguments: the quarter round where there are 16 and the places are unlike; else a copy. Condition: at most 2^20 ints.
  What the specification's Quarter answers at whatever arguments: the quarter round where there are 16 and the places are unlike; else a copy. Condition: at most 2^20 ints.
  What slices.Reverse does to a row of bytes that the call owns, whatever its block's type; condition: at most 2^40 bytes.
  What impl.readWord answers at any four bytes: the number that they are, great or little; condition: they are bytes.
  What spec.Words and impl.Words answer.
  What spec.Little and impl.Little answer at every argument; no condition but that n is an int.
  What spec.Great and impl.Great answer at every argument; no condition but that n is an int.
  What spec.WordBytes and impl.WordBytes answer, whatever ints they are given: each one's word as four bytes, great or little; condition: at most 2^30 ints.
-/
import Derived.Test.YtepbidaoloplbaaDoorPars09
import Derived.Test.YtepbidaoloplbaaDoorPars08
import Derived.Lib.AppendZeros
import Derived.Test.YtepbidaoloplbaaDoorPars11
import Derived.Test.YtepbidaoloplbaaDoorPars12
import Derived.Test.YtepbidaoloplbaaDoorPars13
import Derived.Laws.Cover3
import Derived.Deep.RegionHeld3
import Derived.Test.YtepbidaoloplbaaDoorPars10
namespace Go.Proofs.YtepbidaoloplbaaDoor
open Go.RowKit

theorem append_empty {P : Program} (w : World) (t ty e : TypeId) (i : TypeInfo) (ht : P.underlying t = some (.slice e)) (hi : P.info? e = some i) (b : Option Addr) (n cap : Nat) (p : Option Addr) (c : Nat) (h : n ≤ cap) :
    (Builtin.append_ #[t, t] ty #[.slice b n cap, .slice p 0 c]).run P w = .ok (.slice b n cap) w := by
  cases p <;> cases b <;> simp [Builtin.append_, run_underlying ht, sizeOf, typeInfo, hi, Builtin.lenOf, Builtin.firstCells, loadCells, loadCellsFrom, storeCells, h]

theorem owns_cap {w : World} {base e : Nat} {p : Option Addr} {n c : Nat} {xs : List Value} (h : w.ownsRow base e 1 (.slice p n c) n xs) : n ≤ c := by
  rcases h.2 with ⟨hv, h0⟩ | ⟨g, cap, cur, hv, _, _, hnc, _⟩
  · omega
  · simp only [Value.slice.injEq] at hv
    obtain ⟨_, _, rfl⟩ := hv
    exact hnc

section
variable {P : Program} {e : TypeId} {i : TypeInfo} {base n m c : Nat} {wr : World} {q p : Option Addr} {cq : Nat} {xs ys : List Int}
end

def sumN (nf : Nat → Nat) : Nat → Nat
  | 0 => 0
  | k + 1 => sumN nf k + nf k
def catL (xf : Nat → List Int) : Nat → List Int
  | 0 => []
  | k + 1 => catL xf k ++ xf k
theorem sumN_le (nf : Nat → Nat) {k m : Nat} (h : k ≤ m) : sumN nf k ≤ sumN nf m := by
  induction m with
  | zero => rw [show k = 0 by omega]; exact Nat.le_refl _
  | succ m ih =>
    by_cases e : k = m + 1
    · rw [e]; exact Nat.le_refl _
    · have := ih (by omega)
      simp only [sumN]
      omega

end Go.Proofs.YtepbidaoloplbaaDoor

namespace Go.Proofs.YtepbidaoloplbaaDoor.Alt
open Go.RowKit

section
variable {P : Program} {e : TypeId} {i : TypeInfo} {base n m c : Nat} {wr : World} {q p : Option Addr} {cq : Nat} {xs ys : List Int}
end

end Go.Proofs.YtepbidaoloplbaaDoor.Alt

namespace Go.Proofs.YtepbidaoloplbaaDoor
open Go.RowKit

def qOk (n : Nat) (a b c d : Int) : Prop := n = 16 ∧ (0 ≤ a ∧ a ≤ 15) ∧ (0 ≤ b ∧ b ≤ 15) ∧ (0 ≤ c ∧ c ≤ 15) ∧ (0 ≤ d ∧ d ≤ 15) ∧ a ≠ b ∧ a ≠ c ∧ a ≠ d ∧ b ≠ c ∧ b ≠ d ∧ c ≠ d
instance (n : Nat) (a b c d : Int) : Decidable (qOk n a b c d) := inferInstanceAs (Decidable (_ ∧ _ ∧ _ ∧ _ ∧ _ ∧ _ ∧ _ ∧ _ ∧ _ ∧ _ ∧ _))
def quarterF (L : List Int) (a b c d : Int) : List Int := if qOk L.length a b c d then quarterL L a.toNat b.toNat c.toNat d.toNat else L
section
variable {P : Program} {e : TypeId} {i : TypeInfo} {base n m c : Nat} {wr : World} {q p : Option Addr} {cq : Nat} {xs ys : List Int}
/-- 'append(out, x...)' of ints that lie somewhere, none of them too. -/
theorem list_spreadIA {ops : Array Oper} {rest : List Oper} {o : Oper} {a : Act} {Q : Exit → Act → World → Prop} (hi : P.info? e = some i) (hz : i.zero = some (.int .i64 0)) (hsize : i.size = 1) (hby : i.bytes = 8)
    (s y : Operand) (t : TypeId) (ht : P.underlying t = some (.slice e)) (hown : wr.ownsRow base e 1 (.slice q n cq) n (xs.map (Value.int .i64))) (hin : IntsIn wr p m ys) (hl : ys.length = m) (hm' : m ≤ 1099511627776)
    (hn : n ≤ 1099511627776) (hbase : base ≤ wr.heap.size)
    (hgd : o.guard = none) (ho : o.op = .call { callee := .builtin .append, args := #[s, y], argTypes := #[t, t] }) (hs : a.eval s = .slice q n cq) (hy : a.eval y = .slice p m c)
    (h : ∀ p' cap w', w'.ownsRow base e 1 (.slice p' (n + m) cap) (n + m) ((xs ++ ys).map (Value.int .i64)) → Below base wr w' → wpList P ops Q rest (a.put o.dst (.slice p' (n + m) cap)) w') :
    wpList P ops Q (o :: rest) a wr := by
  rcases Nat.eq_zero_or_pos m with h0 | h0
  · subst h0
    obtain rfl : ys = [] := List.eq_nil_of_length_eq_zero hl
    simp only [List.append_nil, Nat.add_zero] at h
    exact Lib.wpList_append_run wr hgd s y t t ho _ _ hs hy _ _ (append_empty wr t o.type e i ht hi q n cq p c (owns_cap hown)) (h _ _ _ hown (Below.refl _ _))
  · exact list_spreadI hi hz hsize hby s y t ht hown hin hl h0 hm' hn hbase hgd ho hs hy fun g cap w' h1 h2 => h _ _ _ h1 h2
end

end Go.Proofs.YtepbidaoloplbaaDoor

namespace Go.Proofs.YtepbidaoloplbaaDoor.Alt
open Go.RowKit

section
variable {P : Program} {e : TypeId} {i : TypeInfo} {base n m c : Nat} {wr : World} {q p : Option Addr} {cq : Nat} {xs ys : List Int}
end

end Go.Proofs.YtepbidaoloplbaaDoor.Alt

namespace Go.Proofs.YtepbidaoloplbaaDoor.Alt
open Go.RowKit

set_option maxHeartbeats 2000000 in
theorem reverse_any {ty : Nat} (lo hi : Nat) (p : Option Addr) (n c : Nat) (xs : List Int) (w : World) (hn : n ≤ 1099511627776) (h : Own ty w lo hi (.slice p n c) n xs) :
    Calls Altd.prog 61 #[.slice p n c] w fun e w' => e = .returned (.tuple #[]) ∧ Own ty w' lo hi (.slice p n c) n xs.reverse ∧ w.grownBy w' (Value.ownBlock (.slice p n c)) := by
  have hx := h.len
  obtain ⟨hown0, hhi⟩ := h
  rw [← revK_zero xs n hx] at hown0
  go_enter Altd.func61, Altd.ntmps61
  go_wp2
  go_loopw [2, 3] (fun i q wr => ∃ k : Nat, 2 * k ≤ n + 1 ∧ i = .int .i64 k ∧ q = .int .i64 ((n : Int) - 1 - k) ∧ wr.ownsRow lo ty 1 (.slice p n c) n ((revK xs n k).map (Value.int .u8)) ∧ w.grownBy wr (Value.ownBlock (.slice p n c)))
    (fun i _ _ => n + 1 - (intOf i).toNat)
  case atStart => exact ⟨0, by omega, rfl, by go_num, hown0, World.grownBy.refl _ _⟩
  case round =>
    clear hown0
    obtain ⟨k, hk, rfl, rfl, hown, hgr⟩ := hrel
    by_cases hlt : 2 * k + 1 < n
    · obtain ⟨j, hj⟩ : ∃ j : Nat, j + k + 1 = n := ⟨n - 1 - k, by omega⟩
      have hij : ((n : Int) - 1 - (k : Int)) = (j : Int) := by omega
      have hkj : k < j := by omega
      rw [hij]
      clear hij
      obtain ⟨g, rfl⟩ := owns_at hown (by omega)
      have c1 : wr.cell? ⟨g, k, none⟩ = some (.int .u8 (xs.getD k 0)) := by
        rw [hown.cellAt k (by omega), List.getElem?_map, revK_at xs n k k (by omega), if_neg (by omega)]; rfl
      have c2 : wr.cell? ⟨g, j, none⟩ = some (.int .u8 (xs.getD j 0)) := by
        rw [hown.cellAt j (by omega), List.getElem?_map, revK_at xs n k j (by omega), if_neg (by omega)]; rfl
      have f1 := hown.frozenAt k
      have f2 := hown.frozenAt j
      have st1 := hown.stored k (.int .u8 (xs.getD j 0))
      have st2 := st1.1.stored j (.int .u8 (xs.getD k 0))
      rw [revK_step xs n k j hj hkj] at st2
      have hgr2 := grown_trans (grown_trans hgr st1.2) st2.2
      obtain ⟨u, hu⟩ : ∃ u, u = xs.getD k 0 := ⟨_, rfl⟩
      obtain ⟨v, hv⟩ : ∃ v, v = xs.getD j 0 := ⟨_, rfl⟩
      rw [← hu] at c1 st2 hgr2
      rw [← hv] at c2 st2 hgr2
      clear st1 hu hv hown hgr
      go_wp2
      go_region
      all_goals
        go_wp2
        go_roundw
        case rel => exact ⟨k + 1, by omega, by go_num, by go_num, st2.1, ⟨hgr2.os, hgr2.tape, hgr2.output, hgr2.size, hgr2.block⟩⟩
        case measure => simp [intOf]; omega
    · rw [revK_end xs n k hx (by omega)] at hown
      have c1 : ¬ (k : Int) < (n : Int) - 1 - (k : Int) := by omega
      go_wp2
      go_end0
      exact ⟨rfl, ⟨hown, hhi⟩, hgr⟩

end Go.Proofs.YtepbidaoloplbaaDoor.Alt

namespace Go.Proofs.YtepbidaoloplbaaDoor.Alt
open Go.RowKit

set_option maxRecDepth 100000 in
set_option maxHeartbeats 1000000 in
theorem readGreat_any (w : World) (x0 x1 x2 x3 : Nat) (h0 : x0 < 256) (h1 : x1 < 256) (h2 : x2 < 256) (h3 : x3 < 256) :
    Calls Altd.prog 56 #[.agg #[.int .u8 x0, .int .u8 x1, .int .u8 x2, .int .u8 x3], .bool true] w fun e w' => e = .returned (.int .i64 (four x0 x1 x2 x3 : Nat)) ∧ Below w.heap.size w w' := by
  have i0 : ∀ w : World, (Instr.index 78 (.agg #[.int .u8 x0, .int .u8 x1, .int .u8 x2, .int .u8 x3]) (.int .i64 0)).run Altd.prog w = .ok (.int .u8 x0) w := fun _ => by kernel_rfl
  have i1 : ∀ w : World, (Instr.index 78 (.agg #[.int .u8 x0, .int .u8 x1, .int .u8 x2, .int .u8 x3]) (.int .i64 1)).run Altd.prog w = .ok (.int .u8 x1) w := fun _ => by kernel_rfl
  have i2 : ∀ w : World, (Instr.index 78 (.agg #[.int .u8 x0, .int .u8 x1, .int .u8 x2, .int .u8 x3]) (.int .i64 2)).run Altd.prog w = .ok (.int .u8 x2) w := fun _ => by kernel_rfl
  have i3 : ∀ w : World, (Instr.index 78 (.agg #[.int .u8 x0, .int .u8 x1, .int .u8 x2, .int .u8 x3]) (.int .i64 3)).run Altd.prog w = .ok (.int .u8 x3) w := fun _ => by kernel_rfl
  go_enter Altd.func56, Altd.ntmps56
  go_wp2_with (fail)
  go_loop [5, 13] (fun q i => ∃ (k r : Nat), k ≤ 4 ∧ i = .int .i64 k ∧ q = .int .u32 r ∧ r = fours x0 x1 x2 x3 k) (fun _ i => 4 - (intOf i).toNat)
  case atStart => exact ⟨0, 0, by omega, rfl, rfl, rfl⟩
  case round =>
    obtain ⟨k, r, hk, rfl, rfl, hr⟩ := hrel
    have hk5 : k = 0 ∨ k = 1 ∨ k = 2 ∨ k = 3 ∨ k = 4 := by omega
    rcases hk5 with rfl | rfl | rfl | rfl | rfl
    · have hb : r < 16777216 := by simp only [fours] at hr; omega
      have ho := or_byte hb h0
      have HN : Hid (r * 256 + x0 = fours x0 x1 x2 x3 1) := by simp only [Hid, fours] at hr ⊢; omega
      clear hr
      go_wp2
      go_round
      case rel => exact ⟨1, _, by omega, rfl, by simp, HN.out⟩
      case measure => simp [intOf]
    · have hb : r < 16777216 := by simp only [fours] at hr; omega
      have ho := or_byte hb h1
      have HN : Hid (r * 256 + x1 = fours x0 x1 x2 x3 2) := by simp only [Hid, fours] at hr ⊢; omega
      clear hr
      go_wp2
      go_round
      case rel => exact ⟨2, _, by omega, rfl, by simp, HN.out⟩
      case measure => simp [intOf]
    · have hb : r < 16777216 := by simp only [fours] at hr; omega
      have ho := or_byte hb h2
      have HN : Hid (r * 256 + x2 = fours x0 x1 x2 x3 3) := by simp only [Hid, fours] at hr ⊢; omega
      clear hr
      go_wp2
      go_round
      case rel => exact ⟨3, _, by omega, rfl, by simp, HN.out⟩
      case measure => simp [intOf]
    · have hb : r < 16777216 := by simp only [fours] at hr; omega
      have ho := or_byte hb h3
      have HN : Hid (r * 256 + x3 = fours x0 x1 x2 x3 4) := by simp only [Hid, fours, four] at hr ⊢; omega
      clear hr
      go_wp2
      go_round
      case rel => exact ⟨4, _, by omega, rfl, by simp, HN.out⟩
      case measure => simp [intOf]
    · have hb : r < 4294967296 := by simp only [fours, four] at hr; omega
      have HN : Hid (r = four x0 x1 x2 x3) := hr
      clear hr
      go_wp2
      go_ret
      rw [HN.out]
      exact ⟨rfl, (Below.refl _ _).alloc (Nat.le_refl _) _⟩

set_option maxRecDepth 100000 in
set_option maxHeartbeats 1000000 in
theorem readLittle_any (w : World) (x0 x1 x2 x3 : Nat) (h0 : x0 < 256) (h1 : x1 < 256) (h2 : x2 < 256) (h3 : x3 < 256) :
    Calls Altd.prog 56 #[.agg #[.int .u8 x0, .int .u8 x1, .int .u8 x2, .int .u8 x3], .bool false] w fun e w' => e = .returned (.int .i64 (four x3 x2 x1 x0 : Nat)) ∧ Below w.heap.size w w' := by
  have i0 : ∀ w : World, (Instr.index 78 (.agg #[.int .u8 x3, .int .u8 x2, .int .u8 x1, .int .u8 x0]) (.int .i64 0)).run Altd.prog w = .ok (.int .u8 x3) w := fun _ => by kernel_rfl
  have i1 : ∀ w : World, (Instr.index 78 (.agg #[.int .u8 x3, .int .u8 x2, .int .u8 x1, .int .u8 x0]) (.int .i64 1)).run Altd.prog w = .ok (.int .u8 x2) w := fun _ => by kernel_rfl
  have i2 : ∀ w : World, (Instr.index 78 (.agg #[.int .u8 x3, .int .u8 x2, .int .u8 x1, .int .u8 x0]) (.int .i64 2)).run Altd.prog w = .ok (.int .u8 x1) w := fun _ => by kernel_rfl
  have i3 : ∀ w : World, (Instr.index 78 (.agg #[.int .u8 x3, .int .u8 x2, .int .u8 x1, .int .u8 x0]) (.int .i64 3)).run Altd.prog w = .ok (.int .u8 x0) w := fun _ => by kernel_rfl
  go_enter Altd.func56, Altd.ntmps56
  go_wp2_with (fail)
  have hO := owns_four w 78 x0 x1 x2 x3
  refine (reverse_any _ _ _ 4 4 _ _ (by omega) hO).mono ?_
  rintro e w1 ⟨rfl, ho, hg⟩
  have hb1 : Below w.heap.size w w1 := ((Below.refl _ _).alloc (Nat.le_refl _) _).grown hg (by simp) (fun k hk => (hO.1.lt k hk).1)
  have c0 : w1.cell? ⟨w.heap.size, 0, none⟩ = some (.int .u8 x3) := ho.1.cellAt 0 (by omega)
  have c1 : w1.cell? ⟨w.heap.size, 1, none⟩ = some (.int .u8 x2) := ho.1.cellAt 1 (by omega)
  have c2 : w1.cell? ⟨w.heap.size, 2, none⟩ = some (.int .u8 x1) := ho.1.cellAt 2 (by omega)
  have c3 : w1.cell? ⟨w.heap.size, 3, none⟩ = some (.int .u8 x0) := ho.1.cellAt 3 (by omega)
  clear hO ho hg
  go_wp2_with (fail)
  go_loop [5, 13] (fun q i => ∃ (k r : Nat), k ≤ 4 ∧ i = .int .i64 k ∧ q = .int .u32 r ∧ r = fours x3 x2 x1 x0 k) (fun _ i => 4 - (intOf i).toNat)
  case atStart => exact ⟨0, 0, by omega, rfl, rfl, rfl⟩
  case round =>
    obtain ⟨k, r, hk, rfl, rfl, hr⟩ := hrel
    have hk5 : k = 0 ∨ k = 1 ∨ k = 2 ∨ k = 3 ∨ k = 4 := by omega
    rcases hk5 with rfl | rfl | rfl | rfl | rfl
    · have hb : r < 16777216 := by simp only [fours] at hr; omega
      have ho := or_byte hb h3
      have HN : Hid (r * 256 + x3 = fours x3 x2 x1 x0 1) := by simp only [Hid, fours] at hr ⊢; omega
      clear hr
      go_wp2
      go_round
      case rel => exact ⟨1, _, by omega, rfl, by simp, HN.out⟩
      case measure => simp [intOf]
    · have hb : r < 16777216 := by simp only [fours] at hr; omega
      have ho := or_byte hb h2
      have HN : Hid (r * 256 + x2 = fours x3 x2 x1 x0 2) := by simp only [Hid, fours] at hr ⊢; omega
      clear hr
      go_wp2
      go_round
      case rel => exact ⟨2, _, by omega, rfl, by simp, HN.out⟩
      case measure => simp [intOf]
    · have hb : r < 16777216 := by simp only [fours] at hr; omega
      have ho := or_byte hb h1
      have HN : Hid (r * 256 + x1 = fours x3 x2 x1 x0 3) := by simp only [Hid, fours] at hr ⊢; omega
      clear hr
      go_wp2
      go_round
      case rel => exact ⟨3, _, by omega, rfl, by simp, HN.out⟩
      case measure => simp [intOf]
    · have hb : r < 16777216 := by simp only [fours] at hr; omega
      have ho := or_byte hb h0
      have HN : Hid (r * 256 + x0 = fours x3 x2 x1 x0 4) := by simp only [Hid, fours, four] at hr ⊢; omega
      clear hr
      go_wp2
      go_round
      case rel => exact ⟨4, _, by omega, rfl, by simp, HN.out⟩
      case measure => simp [intOf]
    · have hb : r < 4294967296 := by simp only [fours, four] at hr; omega
      have HN : Hid (r = four x3 x2 x1 x0) := hr
      clear hr
      go_wp2
      go_ret
      rw [HN.out]
      exact ⟨rfl, hb1⟩

end Go.Proofs.YtepbidaoloplbaaDoor.Alt

namespace Go.Proofs.YtepbidaoloplbaaDoor.Alt
open Go.RowKit
set_option maxRecDepth 100000

theorem readWord_any (great : Bool) (w : World) (x0 x1 x2 x3 : Int) (h0 : 0 ≤ x0 ∧ x0 < 256) (h1 : 0 ≤ x1 ∧ x1 < 256) (h2 : 0 ≤ x2 ∧ x2 < 256) (h3 : 0 ≤ x3 ∧ x3 < 256) :
    Calls Altd.prog 56 #[.agg #[.int .u8 x0, .int .u8 x1, .int .u8 x2, .int .u8 x3], .bool great] w fun e w' =>
      e = .returned (.int .i64 (if great = true then (four x0.toNat x1.toNat x2.toNat x3.toNat : Nat) else (four x3.toNat x2.toNat x1.toNat x0.toNat : Nat))) ∧ Below w.heap.size w w' := by
  obtain ⟨y0, rfl⟩ : ∃ y : Nat, x0 = y := ⟨x0.toNat, by omega⟩
  obtain ⟨y1, rfl⟩ : ∃ y : Nat, x1 = y := ⟨x1.toNat, by omega⟩
  obtain ⟨y2, rfl⟩ : ∃ y : Nat, x2 = y := ⟨x2.toNat, by omega⟩
  obtain ⟨y3, rfl⟩ : ∃ y : Nat, x3 = y := ⟨x3.toNat, by omega⟩
  cases great
  · simpa using readLittle_any w y0 y1 y2 y3 (by omega) (by omega) (by omega) (by omega)
  · simpa using readGreat_any w y0 y1 y2 y3 (by omega) (by omega) (by omega) (by omega)

set_option maxHeartbeats 2000000 in
theorem implWords_any (p : Option Addr) (n c : Nat) (great : Bool) (xs : List Int) (w : World) (hn : n ≤ 1099511627776) (hc : n ≤ c) (hx : xs.length = n) (h : BytesIn w p n xs) (hb : ∀ x ∈ xs, 0 ≤ x ∧ x < 256) :
    Calls Altd.prog 50 #[.slice p n c, .bool great] w fun e w' => ∃ p' c', e = .returned (.slice p' (n / 4) c') ∧ OwnI 3 w' w.heap.size w'.heap.size (.slice p' (n / 4) c') (n / 4) (wordsL great xs (n / 4)) ∧ Below w.heap.size w w' := by
  obtain ⟨i0, hi, hz0, hz1, hz2⟩ := info_parts infoInt
  have hq : wrap64 ((n : Int) / 4) = ((n / 4 : Nat) : Int) := by unfold wrap64; omega
  go_enter Altd.func50, Altd.ntmps50
  go_wp2_with (at_make; refine wpList_make_own _ rfl _ _ 32 rfl w.heap.size 3 i0 (.int .i64 0) 1 Altd.underlying32 hi hz0 hz1 _ _ _ (n / 4) rfl rfl (by first | rfl | exact hq) (by rw [hz2]; omega) (by unfold maxLen; omega) (Nat.le_refl _) ?_)
  intro w1 hown hgrow
  have hbel : Below w.heap.size w w1 := (Below.refl _ _).grown hgrow (Nat.le_refl _) (fun _ h => by cases h)
  clear hgrow hq
  go_wp2
  go_loopw [0, 5] (fun s v wr => ∃ (k : Nat) (q : Option Addr) (cc : Nat), 4 * k ≤ n ∧ s = .slice q (n - 4 * k) cc ∧ n - 4 * k ≤ cc ∧ BytesIn w q (n - 4 * k) (xs.drop (4 * k)) ∧ wr.ownsRow w.heap.size 3 1 v k ((wordsL great xs k).map (Value.int .i64)) ∧ Below w.heap.size w wr)
    (fun s _ _ => match s with | .slice _ m _ => m | _ => 0)
  case atStart => exact ⟨0, p, c, by omega, rfl, by omega, by simpa using h, by simpa [wordsL] using hown, hbel⟩
  case round =>
    clear hown hbel
    obtain ⟨k, q, cc, hk, rfl, hcc, hin, hown, hbel⟩ := hrel
    by_cases hlt : 4 ≤ n - 4 * k
    · obtain ⟨b, o, rfl, hcell⟩ := hin (by omega)
      have hsz := hbel.size
      have cell : ∀ j, j < 4 → wr.cell? ⟨b, o + j, none⟩ = some (.int .u8 (xs.getD (4 * k + j) 0)) := by
        intro j hj
        rw [hbel.cell (p := ⟨b, o + j, none⟩) (World.block_lt_of_cell? w ⟨b, o + j, none⟩ (hcell j (by omega))), hcell j (by omega)]
        simp [List.getD]
      have byte : ∀ j, j < 4 → 0 ≤ xs.getD (4 * k + j) 0 ∧ xs.getD (4 * k + j) 0 < 256 := by
        intro j hj
        refine hb _ ?_
        simp [List.getElem?_eq_getElem (show 4 * k + j < xs.length by omega)]
      have c0 := cell 0 (by omega)
      have c1 := cell 1 (by omega)
      have c2 := cell 2 (by omega)
      have c3 := cell 3 (by omega)
      have b0 := byte 0 (by omega)
      have b1 := byte 1 (by omega)
      have b2 := byte 2 (by omega)
      have b3 := byte 3 (by omega)
      have HW : Hid ((if great = true then ((four (xs.getD (4 * k + 0) 0).toNat (xs.getD (4 * k + 1) 0).toNat (xs.getD (4 * k + 2) 0).toNat (xs.getD (4 * k + 3) 0).toNat : Nat) : Int) else (four (xs.getD (4 * k + 3) 0).toNat (xs.getD (4 * k + 2) 0).toNat (xs.getD (4 * k + 1) 0).toNat (xs.getD (4 * k + 0) 0).toNat : Nat)) = wordAt great xs k) := rfl
      generalize xs.getD (4 * k + 0) 0 = y0 at c0 b0 HW
      generalize xs.getD (4 * k + 1) 0 = y1 at c1 b1 HW
      generalize xs.getD (4 * k + 2) 0 = y2 at c2 b2 HW
      generalize xs.getD (4 * k + 3) 0 = y3 at c3 b3 HW
      have hnext : Hid (∀ q, (0 < n - 4 * (k + 1) → q = some ⟨b, o + 4, none⟩) → BytesIn w q (n - 4 * (k + 1)) (xs.drop (4 * (k + 1)))) := by
        intro q hq hp
        refine ⟨b, o + 4, hq hp, fun i hi => ?_⟩
        rw [show o + 4 + i = o + (4 + i) by omega, hcell (4 + i) (by omega)]
        simp [List.getD]
        rw [show 4 * k + (4 + i) = 4 * (k + 1) + i by omega]
      clear cell byte hcell hin
      obtain ⟨m, hm⟩ : ∃ m, n - 4 * k = m := ⟨_, rfl⟩
      rw [hm] at hlt hcc ⊢
      simp only [Nat.add_zero] at c0
      have hat : ∀ w, (Instr.arrayAt 78 (.slice (some ⟨b, o, none⟩) m cc)).run Altd.prog w = .ok (.pointer (some ⟨b, o, none⟩)) w := fun w => run_arrayAt w 78 _ 4 _ m cc Altd.underlying78 hlt
      go_wp2_with (fail)
      refine (readWord_any great _ y0 y1 y2 y3 b0 b1 b2 b3).mono ?_
      rintro e w2 ⟨rfl, hb2⟩
      rw [HW.out]
      have HN : Hid (wordsL great xs k ++ [wordAt great xs k] = wordsL great xs (k + 1)) := wordsL_step great xs k
      clear HW c0 c1 c2 c3 b0 b1 b2 b3
      generalize wordAt great xs k = u at HN ⊢
      replace hown := owns_below hown hb2
      replace hbel := below_on hbel hb2
      clear hb2 hsz
      have hsz := hbel.size
      go_wp2_with (at_builtin; refine list_pushI hi hz0 hz1 hz2 (.tmp 15) (.tmp 21) 32 Altd.underlying32 _ hown (by omega) hsz (by rfl) (by rfl) (by rfl) (by rfl) ?_; intro g cap w1 ho1 hb1; rw [HN.out] at ho1)
      go_roundw
      case rel => exact ⟨k + 1, _, _, by omega, by rw [show n - 4 * (k + 1) = m - 4 by omega], by omega, hnext.out _ (fun hp => if_neg (by omega)), ho1, hbel.trans hb1⟩
      case measure => show m - 4 < m; omega
    · have hkn : n / 4 = k := by omega
      rw [hkn]
      obtain ⟨p', c', hv⟩ := owns_form hown
      subst hv
      obtain ⟨m, hm⟩ : ∃ m, n - 4 * k = m := ⟨_, rfl⟩
      rw [hm] at hlt hcc ⊢
      clear hin
      go_wp2
      go_ret
      rw [hkn]
      exact ⟨_, _, rfl, .of hown, hbel⟩

set_option maxHeartbeats 4000000 in
theorem specWords_any (p : Option Addr) (n c : Nat) (great : Bool) (xs : List Int) (w : World) (hn : n ≤ 1099511627776) (hx : xs.length = n) (h : BytesIn w p n xs) (hb : ∀ x ∈ xs, 0 ≤ x ∧ x < 256) :
    Calls Altd.prog 36 #[.slice p n c, .bool great] w fun e w' => ∃ p' c', e = .returned (.slice p' (n / 4) c') ∧ OwnI 3 w' w.heap.size w'.heap.size (.slice p' (n / 4) c') (n / 4) (wordsL great xs (n / 4)) ∧ Below w.heap.size w w' := by
  obtain ⟨i0, hi, hz0, hz1, hz2⟩ := info_parts infoInt
  go_enter Altd.func36, Altd.ntmps36
  go_wp2
  go_loopw [5, 6] (fun v i wr => ∃ k : Nat, 4 * k ≤ n ∧ i = .int .i64 ((4 * k : Nat) : Int) ∧ wr.ownsRow w.heap.size 3 1 v k ((wordsL great xs k).map (Value.int .i64)) ∧ Below w.heap.size w wr)
    (fun _ i _ => n + 4 - (intOf i).toNat)
  case atStart => exact ⟨0, by omega, rfl, World.ownsRow_made w #[] 0 (Nat.le_refl _) (by unfold maxLen; omega) rfl, (Below.refl _ _).alloc (Nat.le_refl _) _⟩
  case round =>
    obtain ⟨k, hk, rfl, hown, hbel⟩ := hrel
    have hsz := hbel.size
    by_cases hlt : 4 * k + 3 < n
    · obtain ⟨b, o, rfl, hcell⟩ := h (by omega)
      have cell : ∀ j, j < 4 → ∃ z : Nat, z < 256 ∧ wr.cell? ⟨b, o + (4 * k + j), none⟩ = some (.int .u8 (z : Int)) ∧ xs.getD (4 * k + j) 0 = (z : Int) := by
        intro j hj
        have hbyte : 0 ≤ xs.getD (4 * k + j) 0 ∧ xs.getD (4 * k + j) 0 < 256 := by
          refine hb _ ?_
          simp [List.getElem?_eq_getElem (show 4 * k + j < xs.length by omega)]
        refine ⟨(xs.getD (4 * k + j) 0).toNat, by omega, ?_, by omega⟩
        rw [hbel.cell (p := ⟨b, o + (4 * k + j), none⟩) (World.block_lt_of_cell? w ⟨b, o + (4 * k + j), none⟩ (hcell _ (by omega))), hcell _ (by omega), Int.toNat_of_nonneg hbyte.1]
      obtain ⟨z0, h0, c0, e0⟩ := cell 0 (by omega)
      obtain ⟨z1, h1, c1, e1⟩ := cell 1 (by omega)
      obtain ⟨z2, h2, c2, e2⟩ := cell 2 (by omega)
      obtain ⟨z3, h3, c3, e3⟩ := cell 3 (by omega)
      have HN : Hid (wordsL great xs k ++ [if great = true then ((four z0 z1 z2 z3 : Nat) : Int) else ((four z3 z2 z1 z0 : Nat) : Int)] = wordsL great xs (k + 1)) := by
        rw [Hid, ← wordsL_step great xs k]
        simp only [wordAt, e0, e1, e2, e3, Int.toNat_natCast]
      have h00 := hcell 0 (by omega)
      simp only [Nat.add_zero] at h00
      clear cell e0 e1 e2 e3 hcell h hb
      simp only [Nat.add_zero] at c0
      have hblt : b < w.heap.size := World.block_lt_of_cell? w ⟨b, o, none⟩ h00
      obtain ⟨j, hj⟩ : ∃ j, 4 * k = j := ⟨_, rfl⟩
      rw [hj] at c0 c1 c2 c3 hlt ⊢
      have l0 : j < n := by omega
      obtain ⟨j1, hj1⟩ : ∃ j1, j + 1 = j1 := ⟨_, rfl⟩
      obtain ⟨j2, hj2⟩ : ∃ j2, j + 2 = j2 := ⟨_, rfl⟩
      obtain ⟨j3, hj3⟩ : ∃ j3, j + 3 = j3 := ⟨_, rfl⟩
      rw [hj1] at c1
      rw [hj2] at c2
      rw [hj3] at c3
      have l1 : j1 < n := by omega
      have l2 : j2 < n := by omega
      have l3 : j3 < n := by omega
      have v1 : IntKind.i64.wrap ((j : Int) + 1) = (j1 : Int) := by rw [IntKind.wrap_i64]; omega
      have v2 : IntKind.i64.wrap ((j : Int) + 2) = (j2 : Int) := by rw [IntKind.wrap_i64]; omega
      have v3 : IntKind.i64.wrap ((j : Int) + 3) = (j3 : Int) := by rw [IntKind.wrap_i64]; omega
      have HK : ∀ w', Below w.heap.size wr w' → w'.cell? ⟨b, o + j, none⟩ = some (.int .u8 (z0 : Int)) ∧ w'.cell? ⟨b, o + j1, none⟩ = some (.int .u8 (z1 : Int)) ∧ w'.cell? ⟨b, o + j2, none⟩ = some (.int .u8 (z2 : Int)) ∧ w'.cell? ⟨b, o + j3, none⟩ = some (.int .u8 (z3 : Int)) := fun w' hB => ⟨(hB.cell (p := ⟨b, o + j, none⟩) hblt).trans c0, (hB.cell (p := ⟨b, o + j1, none⟩) hblt).trans c1, (hB.cell (p := ⟨b, o + j2, none⟩) hblt).trans c2, (hB.cell (p := ⟨b, o + j3, none⟩) hblt).trans c3⟩
      cases great
      all_goals simp only [if_true, Bool.false_eq_true, if_false] at HN
      · have HO := or_fourW z3 z2 z1 z0 h3 h2 h1 h0
        go_wp2
        go_region_held3 (fun w' => w'.cell? ⟨b, o + j, none⟩ = some (.int .u8 (z0 : Int)) ∧ w'.cell? ⟨b, o + j1, none⟩ = some (.int .u8 (z1 : Int)) ∧ w'.cell? ⟨b, o + j2, none⟩ = some (.int .u8 (z2 : Int)) ∧ w'.cell? ⟨b, o + j3, none⟩ = some (.int .u8 (z3 : Int))) (first | exact HK _ (Below.refl _ _) | exact HK _ (Below.refl _ _).drew | exact HK _ ((Below.refl _ _).drew.alloc hsz _) | exact HK _ ((Below.refl _ _).alloc hsz _) | exact HK _ hb1 | exact HK _ hb1.drew) (first | (refine step_pushI hi hz0 hz1 hz2 (.tmp 48) (.tmp 78) 32 Altd.underlying32 _ hown (by omega) hsz (by rfl) (by rfl) (by rfl) (by rfl) ?_; intro g cap w1 ho1 hb1))
        rw [HN.out] at ho1
        go_wp2
        go_roundw
        case rel => exact ⟨k + 1, by omega, by go_num, ho1, hbel.trans hb1⟩
        case measure => simp [intOf]; omega
      · have HO := or_fourW z0 z1 z2 z3 h0 h1 h2 h3
        go_wp2
        go_region_held3 (fun w' => w'.cell? ⟨b, o + j, none⟩ = some (.int .u8 (z0 : Int)) ∧ w'.cell? ⟨b, o + j1, none⟩ = some (.int .u8 (z1 : Int)) ∧ w'.cell? ⟨b, o + j2, none⟩ = some (.int .u8 (z2 : Int)) ∧ w'.cell? ⟨b, o + j3, none⟩ = some (.int .u8 (z3 : Int))) (first | exact HK _ (Below.refl _ _) | exact HK _ (Below.refl _ _).drew | exact HK _ ((Below.refl _ _).drew.alloc hsz _) | exact HK _ ((Below.refl _ _).alloc hsz _) | exact HK _ hb1 | exact HK _ hb1.drew) (first | (refine step_pushI hi hz0 hz1 hz2 (.tmp 16) (.tmp 46) 32 Altd.underlying32 _ hown (by omega) hsz (by rfl) (by rfl) (by rfl) (by rfl) ?_; intro g cap w1 ho1 hb1))
        rw [HN.out] at ho1
        go_wp2
        go_roundw
        case rel => exact ⟨k + 1, by omega, by go_num, ho1, hbel.trans hb1⟩
        case measure => simp [intOf]; omega
    · have hkn : n / 4 = k := by omega
      obtain ⟨p', c', hv⟩ := owns_form hown
      subst hv
      obtain ⟨j, hj⟩ : ∃ j, 4 * k = j := ⟨_, rfl⟩
      rw [hj] at hlt ⊢
      clear h hb
      go_wp2
      go_ret
      rw [hkn]
      exact ⟨_, _, rfl, .of hown, hbel⟩

end Go.Proofs.YtepbidaoloplbaaDoor.Alt

namespace Go.Proofs.YtepbidaoloplbaaDoor.Alt
open Go.RowKit

set_option maxHeartbeats 1000000 in
theorem specLittle_no (n many : Int) (w : World) (h : ¬ (0 ≤ n ∧ 1 ≤ many ∧ many ≤ 8)) :
    Calls Altd.prog 53 #[.int .i64 n, .int .i64 many] w fun e w' => ∃ p c, e = .returned (.slice p 0 c) ∧ Own 5 w' w.heap.size w'.heap.size (.slice p 0 c) 0 [] ∧ Below w.heap.size w w' := by
  by_cases h0 : n < 0
  · clear h
    go_enter Altd.func53, Altd.ntmps53
    go_wp2
    go_ret
    exact ⟨_, _, rfl, .of (World.ownsRow_made _ #[] 0 (Nat.le_refl _) (by unfold maxLen; omega) rfl), (Below.refl _ _).alloc (Nat.le_refl _) _⟩
  · by_cases h1 : 1 ≤ many
    · have h2 : ¬ many ≤ 8 := fun h3 => h ⟨by omega, h1, h3⟩
      clear h
      go_enter Altd.func53, Altd.ntmps53
      go_wp2
      go_ret
      exact ⟨_, _, rfl, .of (World.ownsRow_made _ #[] 0 (Nat.le_refl _) (by unfold maxLen; omega) rfl), (Below.refl _ _).alloc (Nat.le_refl _) _⟩
    · clear h
      go_enter Altd.func53, Altd.ntmps53
      go_wp2
      go_ret
      exact ⟨_, _, rfl, .of (World.ownsRow_made _ #[] 0 (Nat.le_refl _) (by unfold maxLen; omega) rfl), (Below.refl _ _).alloc (Nat.le_refl _) _⟩

set_option maxHeartbeats 1000000 in
theorem specLittle_yes (n : Int) (m : Nat) (w : World) (h0 : 0 ≤ n) (h63 : n ≤ 9223372036854775807) (h1 : 1 ≤ m) (h2 : m ≤ 8) :
    Calls Altd.prog 53 #[.int .i64 n, .int .i64 m] w fun e w' => ∃ p c, e = .returned (.slice p m c) ∧ Own 5 w' w.heap.size w'.heap.size (.slice p m c) m (littleL n m) ∧ Below w.heap.size w w' := by
  obtain ⟨i0, hi, hz0, hz1, hz2⟩ := info_parts infoByte
  have c0 : ¬ n < 0 := by omega
  have c1 : (1 : Int) ≤ (m : Int) := by omega
  have c2 : (m : Int) ≤ 8 := by omega
  go_enter Altd.func53, Altd.ntmps53
  go_wp2
  go_loopw [0, 5, 6] (fun q v i wr => ∃ (k : Nat) (r : Int), k ≤ m ∧ i = .int .i64 k ∧ q = .int .i64 r ∧ 0 ≤ r ∧ r ≤ 9223372036854775807 ∧ Hid (r = n / ((256 ^ k : Nat) : Int)) ∧ wr.ownsRow w.heap.size 5 1 v k ((littleL n k).map (Value.int .u8)) ∧ Below w.heap.size w wr)
    (fun _ _ i _ => m - (intOf i).toNat)
  case atStart => exact ⟨0, n, Nat.zero_le _, rfl, rfl, h0, h63, by simp [Hid], World.ownsRow_made w #[] 0 (Nat.le_refl _) (by unfold maxLen; omega) rfl, (Below.refl _ _).alloc (Nat.le_refl _) _⟩
  case round =>
    obtain ⟨k, r, hk, rfl, rfl, hr0, hr1, hr, hown, hbel⟩ := hrel
    have hsz := hbel.size
    by_cases hlt : k < m
    · have hm := i64_mask255 r hr0 hr1
      have HN : Hid (littleL n k ++ [r % 256] = littleL n (k + 1)) := littleL_step n k r _ hr.out rfl
      have hr' : Hid (r / 256 = n / ((256 ^ (k + 1) : Nat) : Int)) := by rw [hr.out]; exact littleL_next n k
      go_wp2_with (at_builtin; refine list_push hi hz0 hz1 hz2 (.tmp 21) (.tmp 25) 22 Altd.underlying22 _ hown (by omega) hsz (by rfl) (by rfl) (by rfl) (by rfl) ?_; intro g cap w1 ho1 hb1; rw [HN.out] at ho1)
      go_roundw
      case rel => exact ⟨k + 1, r / 256, by omega, by go_num, rfl, by omega, by omega, hr', ho1, hbel.trans hb1⟩
      case measure => simp [intOf]; omega
    · have hkn : k = m := by omega
      subst hkn
      clear hr
      obtain ⟨p', c', hv⟩ := owns_form hown
      subst hv
      go_wp2
      go_ret
      exact ⟨_, _, rfl, .of hown, hbel⟩

set_option maxHeartbeats 1000000 in
theorem implLittle_no (n many : Int) (w : World) (h : ¬ (0 ≤ n ∧ 1 ≤ many ∧ many ≤ 8)) :
    Calls Altd.prog 57 #[.int .i64 n, .int .i64 many] w fun e w' => ∃ p c, e = .returned (.slice p 0 c) ∧ Own 5 w' w.heap.size w'.heap.size (.slice p 0 c) 0 [] ∧ Below w.heap.size w w' := by
  by_cases h0 : n < 0
  · clear h
    go_enter Altd.func57, Altd.ntmps57
    go_wp2
    go_ret
    exact ⟨_, _, rfl, .of (World.ownsRow_nil _ _ _ _), Below.refl _ _⟩
  · by_cases h1 : many < 1
    · clear h
      go_enter Altd.func57, Altd.ntmps57
      go_wp2
      go_ret
      exact ⟨_, _, rfl, .of (World.ownsRow_nil _ _ _ _), Below.refl _ _⟩
    · have h2 : 8 < many := by
        rcases Int.lt_or_le 8 many with h2 | h2
        · exact h2
        · exact absurd ⟨by omega, by omega, h2⟩ h
      clear h
      go_enter Altd.func57, Altd.ntmps57
      go_wp2
      go_ret
      exact ⟨_, _, rfl, .of (World.ownsRow_nil _ _ _ _), Below.refl _ _⟩

set_option maxHeartbeats 1000000 in
theorem implLittle_yes (n : Int) (m : Nat) (w : World) (h0 : 0 ≤ n) (h63 : n ≤ 9223372036854775807) (h1 : 1 ≤ m) (h2 : m ≤ 8) :
    Calls Altd.prog 57 #[.int .i64 n, .int .i64 m] w fun e w' => ∃ p c, e = .returned (.slice p m c) ∧ Own 5 w' w.heap.size w'.heap.size (.slice p m c) m (littleL n m) ∧ Below w.heap.size w w' := by
  obtain ⟨i0, hi, hz0, hz1, hz2⟩ := info_parts infoByte
  have c0 : ¬ n < 0 := by omega
  have c1 : ¬ (m : Int) < 1 := by omega
  have c2 : ¬ 8 < (m : Int) := by omega
  go_enter Altd.func57, Altd.ntmps57
  go_wp2_with (at_make; refine wpList_make_full _ rfl _ _ 22 rfl w.heap.size 5 i0 (.int .u8 0) 1 Altd.underlying22 hi hz0 hz1 _ _ _ _ m rfl rfl rfl rfl (by rw [hz2]; omega) (by unfold maxLen; omega) (Nat.le_refl _) ?_)
  intro w1 hown hgrow
  rw [fill_start (littleL n m) m] at hown
  have hbel : Below w.heap.size w w1 := (Below.refl _ _).grown hgrow (Nat.le_refl _) (fun _ h => by cases h)
  clear hgrow
  go_wp2
  go_loopw [21] (fun i wr => ∃ k : Nat, k ≤ m ∧ i = .int .i64 k ∧ wr.ownsRow w.heap.size 5 1 (.slice (some ⟨w.heap.size, 0, none⟩) m m) m (((littleL n m).take k ++ List.replicate (m - k) 0).map (Value.int .u8)) ∧ Below w.heap.size w wr)
    (fun i _ => m - (intOf i).toNat)
  case atStart => exact ⟨0, Nat.zero_le _, rfl, hown, hbel⟩
  case round =>
    clear hown hbel
    obtain ⟨k, hk, rfl, hown, hbel⟩ := hrel
    by_cases hlt : k < m
    · have hl := littleL_length n m
      have hold : wr.cell? ⟨w.heap.size, k, none⟩ = some (.int .u8 0) := by
        rw [hown.cellAt k (by omega)]; exact fill_old _ m k hlt hl
      have hfz := hown.frozenAt k
      have hst := hown.stored k (.int .u8 (n / 2 ^ (8 * k) % 256))
      rw [fill_step (littleL n m) m k _ (by rw [littleL_getD n m k hlt, two_eight]) hlt hl] at hst
      have hbel' := hbel.setCell (p := ⟨w.heap.size, k, none⟩) (Nat.le_refl _) (.int .u8 (n / 2 ^ (8 * k) % 256))
      clear hl
      go_wp2
      go_roundw
      case rel => exact ⟨k + 1, by omega, by go_num, hst.1, hbel'⟩
      case measure => simp [intOf]; omega
    · have hkn : k = m := by omega
      subst hkn
      rw [fill_end _ _ (littleL_length n k)] at hown
      go_wp2
      go_ret
      exact ⟨_, _, rfl, .of hown, hbel⟩

theorem specLittle_any (n many : Int) (w : World) (h63 : n ≤ 9223372036854775807) :
    Calls Altd.prog 53 #[.int .i64 n, .int .i64 many] w fun e w' => ∃ p c, e = .returned (.slice p (fitN n many) c) ∧ Own 5 w' w.heap.size w'.heap.size (.slice p (fitN n many) c) (fitN n many) (fitL n many) ∧ Below w.heap.size w w' := by
  by_cases h : 0 ≤ n ∧ 1 ≤ many ∧ many ≤ 8
  · have e : many = ((many.toNat : Nat) : Int) := by omega
    unfold fitL
    rw [fit_yes h]
    rw [e]
    exact specLittle_yes n many.toNat w h.1 h63 (by omega) (by omega)
  · rw [(fit_no h).1, (fit_no h).2]
    exact specLittle_no n many w h

theorem implLittle_any (n many : Int) (w : World) (h63 : n ≤ 9223372036854775807) :
    Calls Altd.prog 57 #[.int .i64 n, .int .i64 many] w fun e w' => ∃ p c, e = .returned (.slice p (fitN n many) c) ∧ Own 5 w' w.heap.size w'.heap.size (.slice p (fitN n many) c) (fitN n many) (fitL n many) ∧ Below w.heap.size w w' := by
  by_cases h : 0 ≤ n ∧ 1 ≤ many ∧ many ≤ 8
  · have e : many = ((many.toNat : Nat) : Int) := by omega
    unfold fitL
    rw [fit_yes h]
    rw [e]
    exact implLittle_yes n many.toNat w h.1 h63 (by omega) (by omega)
  · rw [(fit_no h).1, (fit_no h).2]
    exact implLittle_no n many w h

end Go.Proofs.YtepbidaoloplbaaDoor.Alt

namespace Go.Proofs.YtepbidaoloplbaaDoor.Alt
open Go.RowKit
set_option maxRecDepth 100000

set_option maxHeartbeats 2000000 in
theorem specGreat_any (n many : Int) (w : World) (h63 : n ≤ 9223372036854775807) :
    Calls Altd.prog 52 #[.int .i64 n, .int .i64 many] w fun e w' => ∃ p c, e = .returned (.slice p (fitN n many) c) ∧ Own 5 w' w.heap.size w'.heap.size (.slice p (fitN n many) c) (fitN n many) (fitL n many).reverse ∧ Below w.heap.size w w' := by
  obtain ⟨i0, hi, hz0, hz1, hz2⟩ := info_parts infoByte
  have hle := fitN_le n many
  obtain ⟨N, hN⟩ : ∃ N, N = fitN n many := ⟨_, rfl⟩
  obtain ⟨L, hL⟩ : ∃ L, L = fitL n many := ⟨_, rfl⟩
  have C := fun w => specLittle_any n many w h63
  rw [← hN] at hle ⊢
  rw [← hL]
  simp only [← hN, ← hL] at C
  clear hN hL
  go_enter Altd.func52, Altd.ntmps52
  go_wp2_with (fail)
  refine (C _).mono ?_
  rintro e w1 ⟨p1, c1, rfl, r1, b1⟩
  have hz1' := b1.size
  have hx := r1.len
  have hin := r1.bytes
  go_wp2
  go_loopw [6, 7] (fun v i wr => ∃ k : Nat, k ≤ N ∧ i = .int .i64 ((N : Int) - 1 - k) ∧ wr.ownsRow w1.heap.size 5 1 v k ((L.reverse.take k).map (Value.int .u8)) ∧ Below w1.heap.size w1 wr)
    (fun _ i _ => (intOf i + 1).toNat)
  case atStart => exact ⟨0, Nat.zero_le _, by go_num, World.ownsRow_made w1 #[] 0 (Nat.le_refl _) (by unfold maxLen; omega) rfl, (Below.refl _ _).alloc (Nat.le_refl _) _⟩
  case round =>
    obtain ⟨k, hk, rfl, hown, hbel⟩ := hrel
    have hsz := hbel.size
    by_cases hlt : k < N
    · obtain ⟨j, hj⟩ : ∃ j : Nat, j + k + 1 = N := ⟨N - 1 - k, by omega⟩
      have hij : ((N : Int) - 1 - (k : Int)) = (j : Int) := by omega
      rw [hij]
      clear hij
      obtain ⟨b, o, rfl, hc⟩ := hin (by omega)
      obtain ⟨u, hu⟩ : ∃ u, u = L.getD j 0 := ⟨_, rfl⟩
      have hcx : wr.cell? ⟨b, o + j, none⟩ = some (.int .u8 u) := by
        rw [hbel.cell (p := ⟨b, o + j, none⟩) (World.block_lt_of_cell? w1 ⟨b, o + j, none⟩ (hc j (by omega))), hu]
        exact hc j (by omega)
      have HN : Hid (L.reverse.take k ++ [u] = L.reverse.take (k + 1)) := revL_step L N k u hx hlt (by rw [hu, show N - 1 - k = j by omega])
      clear hc hin hu hx
      go_wp2_with (at_builtin; refine list_push hi hz0 hz1 hz2 (.tmp 19) (.tmp 24) 22 Altd.underlying22 _ hown (by omega) (by omega) (by rfl) (by rfl) (by rfl) (by rfl) ?_; intro g cap w2 ho1 hb1; rw [HN.out] at ho1)
      go_roundw
      case rel => exact ⟨k + 1, by omega, by go_num, ho1, hbel.trans hb1⟩
      case measure => simp [intOf]
    · obtain rfl : k = N := by omega
      have c0 : ¬ (0 : Int) ≤ (k : Int) - 1 - (k : Int) := by omega
      rw [List.take_of_length_le (by simp; omega)] at hown
      obtain ⟨p', c', hv⟩ := owns_form hown
      subst hv
      go_wp2
      go_ret
      exact ⟨_, _, rfl, .of (owns_mono hown hz1'), below_on b1 hbel⟩

set_option maxHeartbeats 2000000 in
theorem implGreat_any (n many : Int) (w : World) (h63 : n ≤ 9223372036854775807) :
    Calls Altd.prog 58 #[.int .i64 n, .int .i64 many] w fun e w' => ∃ p c, e = .returned (.slice p (fitN n many) c) ∧ Own 5 w' w.heap.size w'.heap.size (.slice p (fitN n many) c) (fitN n many) (fitL n many).reverse ∧ Below w.heap.size w w' := by
  have hle := fitN_le n many
  go_enter Altd.func58, Altd.ntmps58
  go_wp2_with (fail)
  refine (implLittle_any n many _ h63).mono ?_
  rintro e w1 ⟨p1, c1, rfl, r1, b1⟩
  go_wp2_with (fail)
  refine (reverse_any _ _ p1 (fitN n many) c1 (fitL n many) _ (by omega) r1).mono ?_
  rintro e w2 ⟨rfl, r2, g2⟩
  go_wp2_with (fail)
  go_ret
  exact ⟨_, _, rfl, .of r2.1, b1.grown g2 b1.size fun k hk => (r1.1.lt k hk).1⟩

end Go.Proofs.YtepbidaoloplbaaDoor.Alt

namespace Go.Proofs.YtepbidaoloplbaaDoor.Alt
open Go.RowKit
set_option maxRecDepth 100000

theorem implLittle4 (n : Int) (w : World) :
    Calls Altd.prog 57 #[.int .i64 (n % 4294967296), .int .i64 4] w fun e w' => ∃ p c, e = .returned (.slice p 4 c) ∧ Own 5 w' w.heap.size w'.heap.size (.slice p 4 c) 4 (fourL false n) ∧ Below w.heap.size w w' :=
  implLittle_yes (n % 4294967296) 4 w (by omega) (by omega) (by omega) (by omega)
theorem specLittle4 (n : Int) (w : World) :
    Calls Altd.prog 53 #[.int .i64 (n % 4294967296), .int .i64 4] w fun e w' => ∃ p c, e = .returned (.slice p 4 c) ∧ Own 5 w' w.heap.size w'.heap.size (.slice p 4 c) 4 (fourL false n) ∧ Below w.heap.size w w' :=
  specLittle_yes (n % 4294967296) 4 w (by omega) (by omega) (by omega) (by omega)
theorem implGreat4 (n : Int) (w : World) :
    Calls Altd.prog 58 #[.int .i64 (n % 4294967296), .int .i64 4] w fun e w' => ∃ p c, e = .returned (.slice p 4 c) ∧ Own 5 w' w.heap.size w'.heap.size (.slice p 4 c) 4 (fourL true n) ∧ Below w.heap.size w w' := by
  have h := implGreat_any (n % 4294967296) 4 w (by omega)
  rw [(fit4 n).1, (fit4 n).2] at h
  exact h
theorem specGreat4 (n : Int) (w : World) :
    Calls Altd.prog 52 #[.int .i64 (n % 4294967296), .int .i64 4] w fun e w' => ∃ p c, e = .returned (.slice p 4 c) ∧ Own 5 w' w.heap.size w'.heap.size (.slice p 4 c) 4 (fourL true n) ∧ Below w.heap.size w w' := by
  have h := specGreat_any (n % 4294967296) 4 w (by omega)
  rw [(fit4 n).1, (fit4 n).2] at h
  exact h

set_option maxHeartbeats 2000000 in
theorem implBytesLittle_any (p : Option Addr) (n c : Nat) (xs : List Int) (w : World) (hn : n ≤ 1073741824) (hx : xs.length = n) (h : IntsIn w p n xs) :
    Calls Altd.prog 51 #[.slice p n c, .bool false] w fun e w' => ∃ p' c', e = .returned (.slice p' (4 * n) c') ∧ Own 5 w' w.heap.size w'.heap.size (.slice p' (4 * n) c') (4 * n) (bytesL false xs) ∧ Below w.heap.size w w' := by
  obtain ⟨i0, hi, hz0, hz1, hz2⟩ := info_parts infoByte
  go_enter Altd.func51, Altd.ntmps51
  go_wp2_with (at_make; refine wpList_make_own _ rfl _ _ 22 rfl w.heap.size 5 i0 (.int .u8 0) 1 Altd.underlying22 hi hz0 hz1 _ _ _ (4 * n) rfl rfl (by simp) (by rw [hz2]; omega) (by unfold maxLen; omega) (Nat.le_refl _) ?_)
  intro w1 hown hgrow
  have hbel : Below w.heap.size w w1 := (Below.refl _ _).grown hgrow (Nat.le_refl _) (fun _ h => by cases h)
  clear hgrow
  go_wp2
  go_loopw [6, 16] (fun v i wr => ∃ k : Nat, k ≤ n ∧ i = .int .i64 k ∧ wr.ownsRow w.heap.size 5 1 v (4 * k) ((bytesL false (xs.take k)).map (Value.int .u8)) ∧ Below w.heap.size w wr)
    (fun _ i _ => n - (intOf i).toNat)
  case atStart => exact ⟨0, Nat.zero_le _, rfl, by simpa [bytesL] using hown, hbel⟩
  case round =>
    clear hown hbel
    obtain ⟨k, hk, rfl, hown, hbel⟩ := hrel
    by_cases hlt : k < n
    · obtain ⟨b, o, rfl, hcell⟩ := h (by omega)
      have HN : Hid (bytesL false (xs.take k) ++ fourL false (xs.getD k 0) = bytesL false (xs.take (k + 1))) := bytesL_step _ _ _ (by omega)
      have hc := hcell k hlt
      have c0 : wr.cell? ⟨b, o + k, none⟩ = some (.int .i64 (xs.getD k 0)) := by
        rw [hbel.cell (p := ⟨b, o + k, none⟩) (World.block_lt_of_cell? w ⟨b, o + k, none⟩ hc)]
        exact hc
      clear hc hcell h
      generalize xs.getD k 0 = u at HN c0
      go_wp2_with (fail)
      refine (implWord_same u _).mono ?_
      rintro e w2 ⟨rfl, rfl⟩
      go_wp2_with (fail)
      refine (implLittle4 u _).mono ?_
      rintro e w2 ⟨q, d, rfl, r2, b2⟩
      replace hown := owns_below hown b2
      replace hbel := below_on hbel b2
      have hsz := hbel.size
      have hl4 := fourL_length false u
      have hin := r2.bytes
      clear r2 b2 c0
      generalize fourL false u = ys at HN hl4 hin
      go_wp2_with (at_builtin; refine list_spread hi hz0 hz1 hz2 (.tmp 20) (.tmp 24) 22 Altd.underlying22 hown hin hl4 (by omega) (by omega) (by omega) hsz (by rfl) (by rfl) (by rfl) (by rfl) ?_; intro g cap w3 ho3 _ hb3; rw [HN.out] at ho3)
      go_roundw
      case rel => exact ⟨k + 1, by omega, by go_num, ho3, hbel.trans hb3⟩
      case measure => simp [intOf]; omega
    · have hkn : k = n := by omega
      subst hkn
      obtain ⟨p', c', hv⟩ := owns_form hown
      subst hv
      rw [List.take_of_length_le (by omega)] at hown
      clear h
      go_wp2
      go_ret
      exact ⟨_, _, rfl, .of hown, hbel⟩

set_option maxHeartbeats 2000000 in
theorem implBytesGreat_any (p : Option Addr) (n c : Nat) (xs : List Int) (w : World) (hn : n ≤ 1073741824) (hx : xs.length = n) (h : IntsIn w p n xs) :
    Calls Altd.prog 51 #[.slice p n c, .bool true] w fun e w' => ∃ p' c', e = .returned (.slice p' (4 * n) c') ∧ Own 5 w' w.heap.size w'.heap.size (.slice p' (4 * n) c') (4 * n) (bytesL true xs) ∧ Below w.heap.size w w' := by
  obtain ⟨i0, hi, hz0, hz1, hz2⟩ := info_parts infoByte
  go_enter Altd.func51, Altd.ntmps51
  go_wp2_with (at_make; refine wpList_make_own _ rfl _ _ 22 rfl w.heap.size 5 i0 (.int .u8 0) 1 Altd.underlying22 hi hz0 hz1 _ _ _ (4 * n) rfl rfl (by simp) (by rw [hz2]; omega) (by unfold maxLen; omega) (Nat.le_refl _) ?_)
  intro w1 hown hgrow
  have hbel : Below w.heap.size w w1 := (Below.refl _ _).grown hgrow (Nat.le_refl _) (fun _ h => by cases h)
  clear hgrow
  go_wp2
  go_loopw [6, 16] (fun v i wr => ∃ k : Nat, k ≤ n ∧ i = .int .i64 k ∧ wr.ownsRow w.heap.size 5 1 v (4 * k) ((bytesL true (xs.take k)).map (Value.int .u8)) ∧ Below w.heap.size w wr)
    (fun _ i _ => n - (intOf i).toNat)
  case atStart => exact ⟨0, Nat.zero_le _, rfl, by simpa [bytesL] using hown, hbel⟩
  case round =>
    clear hown hbel
    obtain ⟨k, hk, rfl, hown, hbel⟩ := hrel
    by_cases hlt : k < n
    · obtain ⟨b, o, rfl, hcell⟩ := h (by omega)
      have HN : Hid (bytesL true (xs.take k) ++ fourL true (xs.getD k 0) = bytesL true (xs.take (k + 1))) := bytesL_step _ _ _ (by omega)
      have hc := hcell k hlt
      have c0 : wr.cell? ⟨b, o + k, none⟩ = some (.int .i64 (xs.getD k 0)) := by
        rw [hbel.cell (p := ⟨b, o + k, none⟩) (World.block_lt_of_cell? w ⟨b, o + k, none⟩ hc)]
        exact hc
      clear hc hcell h
      generalize xs.getD k 0 = u at HN c0
      go_wp2_with (fail)
      refine (implWord_same u _).mono ?_
      rintro e w2 ⟨rfl, rfl⟩
      go_wp2_with (fail)
      refine (implGreat4 u _).mono ?_
      rintro e w2 ⟨q, d, rfl, r2, b2⟩
      replace hown := owns_below hown b2
      replace hbel := below_on hbel b2
      have hsz := hbel.size
      have hl4 := fourL_length true u
      have hin := r2.bytes
      clear r2 b2 c0
      generalize fourL true u = ys at HN hl4 hin
      go_wp2_with (at_builtin; refine list_spread hi hz0 hz1 hz2 (.tmp 20) (.tmp 24) 22 Altd.underlying22 hown hin hl4 (by omega) (by omega) (by omega) hsz (by rfl) (by rfl) (by rfl) (by rfl) ?_; intro g cap w3 ho3 _ hb3; rw [HN.out] at ho3)
      go_roundw
      case rel => exact ⟨k + 1, by omega, by go_num, ho3, hbel.trans hb3⟩
      case measure => simp [intOf]; omega
    · have hkn : k = n := by omega
      subst hkn
      obtain ⟨p', c', hv⟩ := owns_form hown
      subst hv
      rw [List.take_of_length_le (by omega)] at hown
      clear h
      go_wp2
      go_ret
      exact ⟨_, _, rfl, .of hown, hbel⟩

set_option maxHeartbeats 2000000 in
theorem specBytesLittle_any (p : Option Addr) (n c : Nat) (xs : List Int) (w : World) (hn : n ≤ 1073741824) (hx : xs.length = n) (h : IntsIn w p n xs) :
    Calls Altd.prog 39 #[.slice p n c, .bool false] w fun e w' => ∃ p' c', e = .returned (.slice p' (4 * n) c') ∧ Own 5 w' w.heap.size w'.heap.size (.slice p' (4 * n) c') (4 * n) (bytesL false xs) ∧ Below w.heap.size w w' := by
  obtain ⟨i0, hi, hz0, hz1, hz2⟩ := info_parts infoByte
  go_enter Altd.func39, Altd.ntmps39
  go_wp2
  go_loopw [5, 6] (fun v i wr => ∃ k : Nat, k ≤ n ∧ i = .int .i64 k ∧ wr.ownsRow w.heap.size 5 1 v (4 * k) ((bytesL false (xs.take k)).map (Value.int .u8)) ∧ Below w.heap.size w wr)
    (fun _ i _ => n - (intOf i).toNat)
  case atStart => exact ⟨0, Nat.zero_le _, rfl, World.ownsRow_made w #[] 0 (Nat.le_refl _) (by unfold maxLen; omega) rfl, (Below.refl _ _).alloc (Nat.le_refl _) _⟩
  case round =>
    obtain ⟨k, hk, rfl, hown, hbel⟩ := hrel
    by_cases hlt : k < n
    · obtain ⟨b, o, rfl, hcell⟩ := h (by omega)
      have HN : Hid (bytesL false (xs.take k) ++ fourL false (xs.getD k 0) = bytesL false (xs.take (k + 1))) := bytesL_step _ _ _ (by omega)
      have hc := hcell k hlt
      have c0 : wr.cell? ⟨b, o + k, none⟩ = some (.int .i64 (xs.getD k 0)) := by
        rw [hbel.cell (p := ⟨b, o + k, none⟩) (World.block_lt_of_cell? w ⟨b, o + k, none⟩ hc)]
        exact hc
      clear hc hcell h
      generalize xs.getD k 0 = u at HN c0
      go_wp2_with (fail)
      refine (specWord_same u _).mono ?_
      rintro e w2 ⟨rfl, rfl⟩
      go_wp2_with (fail)
      refine (specLittle4 u _).mono ?_
      rintro e w2 ⟨q, d, rfl, r2, b2⟩
      replace hown := owns_below hown b2
      replace hbel := below_on hbel b2
      have hsz := hbel.size
      have hl4 := fourL_length false u
      have hin := r2.bytes
      clear r2 b2 c0
      generalize fourL false u = ys at HN hl4 hin
      go_wp2_with (at_builtin; refine list_spread hi hz0 hz1 hz2 (.tmp 23) (.tmp 29) 22 Altd.underlying22 hown hin hl4 (by omega) (by omega) (by omega) hsz (by rfl) (by rfl) (by rfl) (by rfl) ?_; intro g cap w3 ho3 _ hb3; rw [HN.out] at ho3)
      go_roundw
      case rel => exact ⟨k + 1, by omega, by go_num, ho3, hbel.trans hb3⟩
      case measure => simp [intOf]; omega
    · have hkn : k = n := by omega
      subst hkn
      obtain ⟨p', c', hv⟩ := owns_form hown
      subst hv
      rw [List.take_of_length_le (by omega)] at hown
      clear h
      go_wp2
      go_ret
      exact ⟨_, _, rfl, .of hown, hbel⟩

set_option maxHeartbeats 2000000 in
theorem specBytesGreat_any (p : Option Addr) (n c : Nat) (xs : List Int) (w : World) (hn : n ≤ 1073741824) (hx : xs.length = n) (h : IntsIn w p n xs) :
    Calls Altd.prog 39 #[.slice p n c, .bool true] w fun e w' => ∃ p' c', e = .returned (.slice p' (4 * n) c') ∧ Own 5 w' w.heap.size w'.heap.size (.slice p' (4 * n) c') (4 * n) (bytesL true xs) ∧ Below w.heap.size w w' := by
  obtain ⟨i0, hi, hz0, hz1, hz2⟩ := info_parts infoByte
  go_enter Altd.func39, Altd.ntmps39
  go_wp2
  go_loopw [5, 6] (fun v i wr => ∃ k : Nat, k ≤ n ∧ i = .int .i64 k ∧ wr.ownsRow w.heap.size 5 1 v (4 * k) ((bytesL true (xs.take k)).map (Value.int .u8)) ∧ Below w.heap.size w wr)
    (fun _ i _ => n - (intOf i).toNat)
  case atStart => exact ⟨0, Nat.zero_le _, rfl, World.ownsRow_made w #[] 0 (Nat.le_refl _) (by unfold maxLen; omega) rfl, (Below.refl _ _).alloc (Nat.le_refl _) _⟩
  case round =>
    obtain ⟨k, hk, rfl, hown, hbel⟩ := hrel
    by_cases hlt : k < n
    · obtain ⟨b, o, rfl, hcell⟩ := h (by omega)
      have HN : Hid (bytesL true (xs.take k) ++ fourL true (xs.getD k 0) = bytesL true (xs.take (k + 1))) := bytesL_step _ _ _ (by omega)
      have hc := hcell k hlt
      have c0 : wr.cell? ⟨b, o + k, none⟩ = some (.int .i64 (xs.getD k 0)) := by
        rw [hbel.cell (p := ⟨b, o + k, none⟩) (World.block_lt_of_cell? w ⟨b, o + k, none⟩ hc)]
        exact hc
      clear hc hcell h
      generalize xs.getD k 0 = u at HN c0
      go_wp2_with (fail)
      refine (specWord_same u _).mono ?_
      rintro e w2 ⟨rfl, rfl⟩
      go_wp2_with (fail)
      refine (specGreat4 u _).mono ?_
      rintro e w2 ⟨q, d, rfl, r2, b2⟩
      replace hown := owns_below hown b2
      replace hbel := below_on hbel b2
      have hsz := hbel.size
      have hl4 := fourL_length true u
      have hin := r2.bytes
      clear r2 b2 c0
      generalize fourL true u = ys at HN hl4 hin
      go_wp2_with (at_builtin; refine list_spread hi hz0 hz1 hz2 (.tmp 15) (.tmp 21) 22 Altd.underlying22 hown hin hl4 (by omega) (by omega) (by omega) hsz (by rfl) (by rfl) (by rfl) (by rfl) ?_; intro g cap w3 ho3 _ hb3; rw [HN.out] at ho3)
      go_roundw
      case rel => exact ⟨k + 1, by omega, by go_num, ho3, hbel.trans hb3⟩
      case measure => simp [intOf]; omega
    · have hkn : k = n := by omega
      subst hkn
      obtain ⟨p', c', hv⟩ := owns_form hown
      subst hv
      rw [List.take_of_length_le (by omega)] at hown
      clear h
      go_wp2
      go_ret
      exact ⟨_, _, rfl, .of hown, hbel⟩

theorem implWordBytes_any (p : Option Addr) (n c : Nat) (great : Bool) (xs : List Int) (w : World) (hn : n ≤ 1073741824) (hx : xs.length = n) (h : IntsIn w p n xs) :
    Calls Altd.prog 51 #[.slice p n c, .bool great] w fun e w' => ∃ p' c', e = .returned (.slice p' (4 * n) c') ∧ Own 5 w' w.heap.size w'.heap.size (.slice p' (4 * n) c') (4 * n) (bytesL great xs) ∧ Below w.heap.size w w' := by
  cases great
  · exact implBytesLittle_any p n c xs w hn hx h
  · exact implBytesGreat_any p n c xs w hn hx h

theorem specWordBytes_any (p : Option Addr) (n c : Nat) (great : Bool) (xs : List Int) (w : World) (hn : n ≤ 1073741824) (hx : xs.length = n) (h : IntsIn w p n xs) :
    Calls Altd.prog 39 #[.slice p n c, .bool great] w fun e w' => ∃ p' c', e = .returned (.slice p' (4 * n) c') ∧ Own 5 w' w.heap.size w'.heap.size (.slice p' (4 * n) c') (4 * n) (bytesL great xs) ∧ Below w.heap.size w w' := by
  cases great
  · exact specBytesLittle_any p n c xs w hn hx h
  · exact specBytesGreat_any p n c xs w hn hx h

end Go.Proofs.YtepbidaoloplbaaDoor.Alt
