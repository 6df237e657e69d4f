/-
  What the program reads of a book at a place. Conditions: bytes that lie there, as many as a law hands over.
-/
import Derived.Test.YtelfejgpphoifaaDoorLineAt
import Derived.Test.YtelfejgpphoifaaDoorCopied
import Derived.Deep.RegionHeld3
namespace Go.Proofs.YtelfejgpphoifaaDoor
open Go.RowKit
set_option maxRecDepth 100000

theorem lineAt_far (p : Option Addr) (n c : Nat) (at_ : Int) (w : World) (hn : n ≤ 1048576) (ha : at_ ≤ 9223372036854775807) (h : at_ < 0 ∨ (n : Int) - at_ < 16) :
    Calls Tryd.prog 16 #[.slice p n c, .int .i64 at_] w fun e w' => e = .returned (.tuple #[.nilIface, .int .i64 0, .iface 44 (.agg #[.int .i64 at_])]) ∧ w' = w := by
  by_cases h0 : at_ < 0
  · clear h
    go_enter Tryd.func16, Tryd.ntmps16
    go_wp2_with (fail)
    refine bodyPost_ret (v := .tuple #[.nilIface, .int .i64 0, .iface 44 (.agg #[.int .i64 at_])]) ?_ rfl ⟨rfl, rfl⟩
    simp only [results, Tryd.f16]
    go_simp
  · have h1 : (n : Int) - at_ < 16 := by omega
    have hw : IntKind.i64.wrap ((n : Int) - at_) = (n : Int) - at_ := by rw [IntKind.wrap_i64]; omega
    clear h
    go_enter Tryd.func16, Tryd.ntmps16
    go_wp2_with (fail)
    refine bodyPost_ret (v := .tuple #[.nilIface, .int .i64 0, .iface 44 (.agg #[.int .i64 at_])]) ?_ rfl ⟨rfl, rfl⟩
    simp only [results, Tryd.f16]
    go_simp

/-- What the kind of a line is made of. -/
def kindV (kd : Int) (s : ByteArray) (t d : Int) (p : Option Addr) (n c : Nat) : Value :=
  if kd = 1 then .iface 69 (.agg #[.string s, .int .i64 t, .int .i64 d, .slice p n c]) else if kd = 2 then .iface 71 (.agg #[.string s]) else .iface 73 (.agg #[.int .i64 d])
theorem ofKind_any (kd : Int) (s : ByteArray) (t d : Int) (p : Option Addr) (n c : Nat) (w : World) (h : kd = 1 ∨ kd = 2 ∨ kd = 3) :
    Calls Tryd.prog 28 #[.agg #[.int .i64 kd, .string s, .int .i64 t, .int .i64 d, .slice p n c]] w fun e w' => e = .returned (kindV kd s t d p n c) ∧ Below w.heap.size w w' := by
  rcases h with rfl | rfl | rfl
  · exact ofKind1 s t d p n c w
  · exact ofKind2 s t d p n c w
  · exact ofKind3 s t d p n c w

set_option maxHeartbeats 16000000 in
theorem lineAt_near (g o n c : Nat) (bs : List Int) (a : Nat) (w : World) (hn : n ≤ 1048576) (hx : bs.length = n) (h : BytesIn w (some ⟨g, o, none⟩) n bs) (hb : ∀ x ∈ bs, 0 ≤ x ∧ x < 256) (hc : n ≤ c) (ha : a + 16 ≤ n) (hno : ¬ a + 18 + laN bs a ≤ n) :
    Calls Tryd.prog 16 #[.slice (some ⟨g, o, none⟩) n c, .int .i64 (a : Int)] w fun e w' => e = .returned (.tuple #[.nilIface, .int .i64 0, .iface 44 (.agg #[.int .i64 (a : Int)])]) ∧ w' = w := by
  have hw : IntKind.i64.wrap ((n : Int) - (a : Int)) = (n : Int) - (a : Int) := by rw [IntKind.wrap_i64]; omega
  have h1 : ¬ (a : Int) < 0 := by omega
  have h2 : ¬ (n : Int) - (a : Int) < 16 := by omega
  have s1 := cut_from g o n c a (by omega) (by omega)
  have s2 := cut_mid g (o + a) (n - a) (c - a) 14 16 (by omega) (by omega) (by omega)
  have i2 : BytesIn w (some ⟨g, o + a + 14, none⟩) 2 ((bs.drop (a + 14)).take 2) := by
    have := in_cut h (a + 14) 2 (by omega)
    rw [← Nat.add_assoc] at this
    exact this
  have l2 : ((bs.drop (a + 14)).take 2).length = 2 := by rw [List.length_take, List.length_drop]; omega
  have b2 : ∀ x ∈ (bs.drop (a + 14)).take 2, 0 ≤ x ∧ x < 256 := fun x hx => hb x (List.mem_of_mem_drop (List.mem_of_mem_take hx))
  have hN := laN_lt hb a
  have G := greatNumber_any (some ⟨g, o + a + 14, none⟩) 2 (c - a - 14) _ w (by omega) l2 i2 b2
  obtain ⟨M, hM⟩ : ∃ M, M = laN bs a := ⟨_, rfl⟩
  have G' : Calls Tryd.prog 23 #[.slice (some ⟨g, o + a + 14, none⟩) 2 (c - a - 14)] w fun e w' => e = .returned (.int .i64 (M : Int)) ∧ w' = w := by rw [hM]; exact G
  rw [← hM] at hN hno
  obtain ⟨R, hR⟩ : ∃ R, R = n - a := ⟨_, rfl⟩
  obtain ⟨CA, hCA⟩ : ∃ CA, CA = c - a := ⟨_, rfl⟩
  rw [← hR] at s1 s2
  rw [← hCA] at s1 s2 G'
  replace s2 : ∀ V, (Instr.slice 22 (.slice (some ⟨g, o + a, none⟩) R CA) (some (.int .i64 14)) (some (.int .i64 16)) none).run Tryd.prog V = .ok (.slice (some ⟨g, o + a + 14, none⟩) 2 (CA - 14)) V := s2
  have w1 : IntKind.i64.wrap (16 + (M : Int)) = 16 + (M : Int) := by rw [IntKind.wrap_i64]; omega
  have w2 : IntKind.i64.wrap (16 + (M : Int) + 2) = 16 + (M : Int) + 2 := by rw [IntKind.wrap_i64]; omega
  have h3 : (R : Int) < 16 + (M : Int) + 2 := by omega
  clear G i2 l2 b2 hM hR hCA h hb hx hno
  go_enter Tryd.func16, Tryd.ntmps16
  go_wp2_with (fail)
  refine G'.mono ?_
  rintro e w' ⟨rfl, rfl⟩
  go_wp2_with (fail)
  refine bodyPost_ret (v := .tuple #[.nilIface, .int .i64 0, .iface 44 (.agg #[.int .i64 (a : Int)])]) ?_ rfl ⟨rfl, rfl⟩
  simp only [results, Tryd.f16]
  go_simp

end Go.Proofs.YtelfejgpphoifaaDoor
