/-
  LineOf of both sides, whatever is asked, and the laws' marks in a line. Conditions: bytes that lie there, as many as a law hands over; the library's variable is laid.
-/
import Derived.Test.YtelfejgpphoifaaDoorSpecLineOf2
import Derived.Test.YtelfejgpphoifaaDoorLine
namespace Go.Proofs.YtelfejgpphoifaaDoor
open Go.RowKit
set_option maxRecDepth 100000

theorem own_nil (e : Nat) (w : World) (lo hi : Nat) : Own e w lo hi (.slice none 0 0) 0 [] := ⟨⟨rfl, .inl ⟨rfl, rfl⟩⟩, fun k hk => by cases hk⟩

/-- Both sides answer one line, one place and one bool. -/
theorem lineOf_sides (n : Nat) (bs : List Int) (at_ : Int) (hn : n ≤ 1048576) (hx : bs.length = n) (hb : ∀ x ∈ bs, 0 ≤ x ∧ x < 256) (ha : at_ ≤ 9223372036854775807) :
    ∃ (K0 T0 D0 E0 : Int) (S0 : ByteArray) (N0 : Nat) (X0 : List Int) (B0 : Bool), N0 ≤ 1048576 ∧ X0.length = N0 ∧
      (∀ (p : Option Addr) (c : Nat) (X : World), BytesIn X p n bs → n ≤ c → Calls Tryd.prog 4 #[.slice p n c, .int .i64 at_] X fun e w' => ∃ p c, e = .returned (.tuple #[.agg #[.int .i64 K0, .string S0, .int .i64 T0, .int .i64 D0, .slice p N0 c], .int .i64 E0, .bool B0]) ∧ Own 5 w' X.heap.size w'.heap.size (.slice p N0 c) N0 X0 ∧ Below X.heap.size X w') ∧
      (∀ (p : Option Addr) (c : Nat) (X : World), BytesIn X p n bs → n ≤ c → ErrIs X → Calls Tryd.prog 6 #[.slice p n c, .int .i64 at_] X fun e w' => ∃ p c, e = .returned (.tuple #[.agg #[.int .i64 K0, .string S0, .int .i64 T0, .int .i64 D0, .slice p N0 c], .int .i64 E0, .bool B0]) ∧ Own 5 w' X.heap.size w'.heap.size (.slice p N0 c) N0 X0 ∧ Below X.heap.size X w') := by
  by_cases hok : laOk bs at_
  · obtain ⟨a, rfl⟩ : ∃ a : Nat, at_ = (a : Int) := ⟨at_.toNat, (Int.toNat_of_nonneg hok.1).symm⟩
    have h2 : a + 18 + laN bs a ≤ n := by have := hok.2.1; rw [Int.toNat_natCast] at this; omega
    have h3 : laB bs a = true := by have := hok.2.2; rwa [Int.toNat_natCast] at this
    have hN := laN_lt hb a
    refine ⟨laK bs a, laT bs a, laD bs a, ((a + 18 + laN bs a : Nat) : Int), laS bs a, laN bs a, laX bs a, true, by omega, laX_len (by omega), fun p c X h hc => ?_, fun p c X h hc hE => ?_⟩
    · obtain ⟨g, o, rfl, _⟩ := id h (by omega)
      refine (specLineOf_at g o n c bs a X hn hx h hb hc h2).mono ?_
      rintro e w' ⟨pt, ct, rfl, hown, hbel⟩
      exact ⟨pt, ct, by rw [if_pos h3], hown, hbel⟩
    · exact implLineOf_yes p n c bs a X hn hx h hb hc hok
  · refine ⟨0, 0, 0, 0, { data := #[] }, 0, [], false, by omega, rfl, fun p c X h hc => ?_, fun p c X h hc hE => ?_⟩
    · by_cases hf : at_ < 0 ∨ (n : Int) - 18 < at_
      · refine (specLineOf_far p n c at_ X hn ha hf).mono ?_
        rintro e w' ⟨rfl, hbel⟩
        exact ⟨none, 0, rfl, own_nil _ _ _ _, hbel⟩
      · obtain ⟨a, rfl⟩ : ∃ a : Nat, at_ = (a : Int) := ⟨at_.toNat, (Int.toNat_of_nonneg (by omega)).symm⟩
        obtain ⟨g, o, rfl, _⟩ := id h (by omega)
        by_cases h2 : a + 18 + laN bs a ≤ n
        · have h3 : ¬ laB bs a = true := fun k => hok ⟨by omega, by rw [Int.toNat_natCast, hx]; exact h2, by rw [Int.toNat_natCast]; exact k⟩
          refine (specLineOf_at g o n c bs a X hn hx h hb hc h2).mono ?_
          rintro e w' ⟨pt, ct, rfl, hown, hbel⟩
          exact ⟨none, 0, by rw [if_neg h3], own_nil _ _ _ _, hbel⟩
        · refine (specLineOf_near g o n c bs a X hn hx h hb (by omega) h2).mono ?_
          rintro e w' ⟨rfl, hbel⟩
          exact ⟨none, 0, rfl, own_nil _ _ _ _, hbel⟩
    · refine (implLineOf_no p n c bs at_ X hn hx h hb hc ha hok hE).mono ?_
      rintro e w' ⟨rfl, hbel⟩
      exact ⟨none, 0, rfl, own_nil _ _ _ _, hbel⟩

end Go.Proofs.YtelfejgpphoifaaDoor
