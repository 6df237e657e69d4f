/-
  What impl.readWord answers at any four bytes: the number that they are, great or little; condition: they are bytes.
-/
import Derived.Test.YtdjdanpicbaieaaDoorWord
import Derived.Test.YtdjdanpicbaieaaDoorRev
namespace Go.Proofs.YtdjdanpicbaieaaDoor
open Go.RowKit

/-- Four bytes, the high ones first. -/
def four (x0 x1 x2 x3 : Nat) : Nat := ((x0 * 256 + x1) * 256 + x2) * 256 + x3
def fours (x0 x1 x2 x3 : Nat) : Nat → Nat
  | 0 => 0
  | 1 => x0
  | 2 => x0 * 256 + x1
  | 3 => (x0 * 256 + x1) * 256 + x2
  | _ => four x0 x1 x2 x3

theorem or_byte {q x : Nat} (hq : q < 16777216) (hx : x < 256) : bits .or .u32 ((q : Int) * 256) (x : Int) = ((q * 256 + x : Nat) : Int) := by
  have e : (q : Int) * 256 = ((q * 256 : Nat) : Int) := by omega
  rw [e, u32_or _ _ (by omega) (by omega)]
  have := Nat.two_pow_add_eq_or_of_lt (i := 8) hx q
  rw [Nat.mul_comm q]
  show ((2 ^ 8 * q ||| x : Nat) : Int) = _
  rw [← this]

set_option maxRecDepth 100000 in
set_option maxHeartbeats 1000000 in
theorem readGreat_any (w : World) (x0 x1 x2 x3 : Nat) (h0 : x0 < 256) (h1 : x1 < 256) (h2 : x2 < 256) (h3 : x3 < 256) :
    Calls Tryd.prog 128 #[.agg #[.int .u8 x0, .int .u8 x1, .int .u8 x2, .int .u8 x3], .bool true] w fun e w' => e = .returned (.int .i64 (four x0 x1 x2 x3 : Nat)) ∧ Below w.heap.size w w' := by
  have i0 : ∀ w : World, (Instr.index 132 (.agg #[.int .u8 x0, .int .u8 x1, .int .u8 x2, .int .u8 x3]) (.int .i64 0)).run Tryd.prog w = .ok (.int .u8 x0) w := fun _ => by kernel_rfl
  have i1 : ∀ w : World, (Instr.index 132 (.agg #[.int .u8 x0, .int .u8 x1, .int .u8 x2, .int .u8 x3]) (.int .i64 1)).run Tryd.prog w = .ok (.int .u8 x1) w := fun _ => by kernel_rfl
  have i2 : ∀ w : World, (Instr.index 132 (.agg #[.int .u8 x0, .int .u8 x1, .int .u8 x2, .int .u8 x3]) (.int .i64 2)).run Tryd.prog w = .ok (.int .u8 x2) w := fun _ => by kernel_rfl
  have i3 : ∀ w : World, (Instr.index 132 (.agg #[.int .u8 x0, .int .u8 x1, .int .u8 x2, .int .u8 x3]) (.int .i64 3)).run Tryd.prog w = .ok (.int .u8 x3) w := fun _ => by kernel_rfl
  go_enter Tryd.func128, Tryd.ntmps128
  go_wp2_with (fail)
  go_loop [5, 13] (fun q i => ∃ (k r : Nat), k ≤ 4 ∧ i = .int .i64 k ∧ q = .int .u32 r ∧ r = fours x0 x1 x2 x3 k) (fun _ i => 4 - (intOf i).toNat)
  case atStart => exact ⟨0, 0, by omega, rfl, rfl, rfl⟩
  case round =>
    obtain ⟨k, r, hk, rfl, rfl, hr⟩ := hrel
    have hk5 : k = 0 ∨ k = 1 ∨ k = 2 ∨ k = 3 ∨ k = 4 := by omega
    rcases hk5 with rfl | rfl | rfl | rfl | rfl
    · have hb : r < 16777216 := by simp only [fours] at hr; omega
      have ho := or_byte hb h0
      have HN : Hid (r * 256 + x0 = fours x0 x1 x2 x3 1) := by simp only [Hid, fours] at hr ⊢; omega
      clear hr
      go_wp2
      go_round
      case rel => exact ⟨1, _, by omega, rfl, by simp, HN.out⟩
      case measure => simp [intOf]
    · have hb : r < 16777216 := by simp only [fours] at hr; omega
      have ho := or_byte hb h1
      have HN : Hid (r * 256 + x1 = fours x0 x1 x2 x3 2) := by simp only [Hid, fours] at hr ⊢; omega
      clear hr
      go_wp2
      go_round
      case rel => exact ⟨2, _, by omega, rfl, by simp, HN.out⟩
      case measure => simp [intOf]
    · have hb : r < 16777216 := by simp only [fours] at hr; omega
      have ho := or_byte hb h2
      have HN : Hid (r * 256 + x2 = fours x0 x1 x2 x3 3) := by simp only [Hid, fours] at hr ⊢; omega
      clear hr
      go_wp2
      go_round
      case rel => exact ⟨3, _, by omega, rfl, by simp, HN.out⟩
      case measure => simp [intOf]
    · have hb : r < 16777216 := by simp only [fours] at hr; omega
      have ho := or_byte hb h3
      have HN : Hid (r * 256 + x3 = fours x0 x1 x2 x3 4) := by simp only [Hid, fours, four] at hr ⊢; omega
      clear hr
      go_wp2
      go_round
      case rel => exact ⟨4, _, by omega, rfl, by simp, HN.out⟩
      case measure => simp [intOf]
    · have hb : r < 4294967296 := by simp only [fours, four] at hr; omega
      have HN : Hid (r = four x0 x1 x2 x3) := hr
      clear hr
      go_wp2
      go_ret
      rw [HN.out]
      exact ⟨rfl, (Below.refl _ _).alloc (Nat.le_refl _) _⟩

theorem owns_four (w : World) (ty : Nat) (x0 x1 x2 x3 : Int) :
    Own ty (w.alloc (.cells #[.int .u8 x0, .int .u8 x1, .int .u8 x2, .int .u8 x3] ty)) w.heap.size (w.heap.size + 1) (.slice (some ⟨w.heap.size, 0, none⟩) 4 4) 4 [x0, x1, x2, x3] := by
  refine ⟨⟨rfl, .inr ⟨w.heap.size, 4, _, rfl, Nat.le_refl _, heap_alloc_new w _, Nat.le_refl _, by unfold maxLen; omega, rfl, rfl⟩⟩, ?_⟩
  intro k hk
  simp [Value.ownBlock] at hk
  omega

set_option maxRecDepth 100000 in
set_option maxHeartbeats 1000000 in
theorem readLittle_any (w : World) (x0 x1 x2 x3 : Nat) (h0 : x0 < 256) (h1 : x1 < 256) (h2 : x2 < 256) (h3 : x3 < 256) :
    Calls Tryd.prog 128 #[.agg #[.int .u8 x0, .int .u8 x1, .int .u8 x2, .int .u8 x3], .bool false] w fun e w' => e = .returned (.int .i64 (four x3 x2 x1 x0 : Nat)) ∧ Below w.heap.size w w' := by
  have i0 : ∀ w : World, (Instr.index 132 (.agg #[.int .u8 x3, .int .u8 x2, .int .u8 x1, .int .u8 x0]) (.int .i64 0)).run Tryd.prog w = .ok (.int .u8 x3) w := fun _ => by kernel_rfl
  have i1 : ∀ w : World, (Instr.index 132 (.agg #[.int .u8 x3, .int .u8 x2, .int .u8 x1, .int .u8 x0]) (.int .i64 1)).run Tryd.prog w = .ok (.int .u8 x2) w := fun _ => by kernel_rfl
  have i2 : ∀ w : World, (Instr.index 132 (.agg #[.int .u8 x3, .int .u8 x2, .int .u8 x1, .int .u8 x0]) (.int .i64 2)).run Tryd.prog w = .ok (.int .u8 x1) w := fun _ => by kernel_rfl
  have i3 : ∀ w : World, (Instr.index 132 (.agg #[.int .u8 x3, .int .u8 x2, .int .u8 x1, .int .u8 x0]) (.int .i64 3)).run Tryd.prog w = .ok (.int .u8 x0) w := fun _ => by kernel_rfl
  go_enter Tryd.func128, Tryd.ntmps128
  go_wp2_with (fail)
  have hO := owns_four w 132 x0 x1 x2 x3
  refine (reverse_any _ _ _ 4 4 _ _ (by omega) hO).mono ?_
  rintro e w1 ⟨rfl, ho, hg⟩
  have hb1 : Below w.heap.size w w1 := ((Below.refl _ _).alloc (Nat.le_refl _) _).grown hg (by simp) (fun k hk => (hO.1.lt k hk).1)
  have c0 : w1.cell? ⟨w.heap.size, 0, none⟩ = some (.int .u8 x3) := ho.1.cellAt 0 (by omega)
  have c1 : w1.cell? ⟨w.heap.size, 1, none⟩ = some (.int .u8 x2) := ho.1.cellAt 1 (by omega)
  have c2 : w1.cell? ⟨w.heap.size, 2, none⟩ = some (.int .u8 x1) := ho.1.cellAt 2 (by omega)
  have c3 : w1.cell? ⟨w.heap.size, 3, none⟩ = some (.int .u8 x0) := ho.1.cellAt 3 (by omega)
  clear hO ho hg
  go_wp2_with (fail)
  go_loop [5, 13] (fun q i => ∃ (k r : Nat), k ≤ 4 ∧ i = .int .i64 k ∧ q = .int .u32 r ∧ r = fours x3 x2 x1 x0 k) (fun _ i => 4 - (intOf i).toNat)
  case atStart => exact ⟨0, 0, by omega, rfl, rfl, rfl⟩
  case round =>
    obtain ⟨k, r, hk, rfl, rfl, hr⟩ := hrel
    have hk5 : k = 0 ∨ k = 1 ∨ k = 2 ∨ k = 3 ∨ k = 4 := by omega
    rcases hk5 with rfl | rfl | rfl | rfl | rfl
    · have hb : r < 16777216 := by simp only [fours] at hr; omega
      have ho := or_byte hb h3
      have HN : Hid (r * 256 + x3 = fours x3 x2 x1 x0 1) := by simp only [Hid, fours] at hr ⊢; omega
      clear hr
      go_wp2
      go_round
      case rel => exact ⟨1, _, by omega, rfl, by simp, HN.out⟩
      case measure => simp [intOf]
    · have hb : r < 16777216 := by simp only [fours] at hr; omega
      have ho := or_byte hb h2
      have HN : Hid (r * 256 + x2 = fours x3 x2 x1 x0 2) := by simp only [Hid, fours] at hr ⊢; omega
      clear hr
      go_wp2
      go_round
      case rel => exact ⟨2, _, by omega, rfl, by simp, HN.out⟩
      case measure => simp [intOf]
    · have hb : r < 16777216 := by simp only [fours] at hr; omega
      have ho := or_byte hb h1
      have HN : Hid (r * 256 + x1 = fours x3 x2 x1 x0 3) := by simp only [Hid, fours] at hr ⊢; omega
      clear hr
      go_wp2
      go_round
      case rel => exact ⟨3, _, by omega, rfl, by simp, HN.out⟩
      case measure => simp [intOf]
    · have hb : r < 16777216 := by simp only [fours] at hr; omega
      have ho := or_byte hb h0
      have HN : Hid (r * 256 + x0 = fours x3 x2 x1 x0 4) := by simp only [Hid, fours, four] at hr ⊢; omega
      clear hr
      go_wp2
      go_round
      case rel => exact ⟨4, _, by omega, rfl, by simp, HN.out⟩
      case measure => simp [intOf]
    · have hb : r < 4294967296 := by simp only [fours, four] at hr; omega
      have HN : Hid (r = four x3 x2 x1 x0) := hr
      clear hr
      go_wp2
      go_ret
      rw [HN.out]
      exact ⟨rfl, hb1⟩

end Go.Proofs.YtdjdanpicbaieaaDoor
