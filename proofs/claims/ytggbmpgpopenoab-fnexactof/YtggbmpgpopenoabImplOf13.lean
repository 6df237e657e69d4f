/-
  How many items there are of a route, as the program counts them. Conditions: items that lie there, as many as a law hands over.
-/
import Derived.Test.YtggbmpgpopenoabShelved
import Derived.Test.YtggbmpgpopenoabSpecOf
namespace Go.Proofs.Ytggbmpgpopenoab
open Go.RowKit
set_option maxRecDepth 100000

theorem ofR_count (s : ByteArray) (its : List ItA) (k : Nat) : (ofR s ((its.zipIdx k).map fun z => (⟨(z.2 : Int), z.1⟩ : PIt))).length = cntI s its := by
  induction its generalizing k with
  | nil => rfl
  | cons x r ih =>
    have := ih (k + 1)
    simp only [ofR, cntI, List.zipIdx_cons, List.map_cons, List.filter_cons, List.countP_cons] at *
    by_cases e : x.s = s
    · simp [e, this]
    · simp [e, this]

set_option maxHeartbeats 4000000 in
theorem implOf_any (p : Option Addr) (n c : Nat) (its : List ItA) (s : ByteArray) (w : World) (hn : n ≤ 1048576) (hl : its.length = n) (h : ItemsIn w p n its) (hs : ∀ x ∈ its, x.s.size ≤ 1048576) (hss : s.size ≤ 1048576) :
    Calls Try.prog 7 #[.slice p n c, .string s] w fun e w' => e = .returned (.int .i64 (cntI s its)) ∧ Below w.heap.size w w' := by
  have hcn : (ofR s (plL its)).length = cntI s its := ofR_count s its 0
  go_enter Try.func7, Try.ntmps7
  go_wp2_with (fail)
  refine (shelved_any p n c its _ hn hl h hs).mono ?_
  rintro z w1 ⟨S, rfl, ⟨B, nn, m, hC, hlo, hnN, hR⟩, b1⟩
  have hrow := hR.row s
  have hlk := hR.map.look s hss
  have l0 : w1.cell? ⟨S, 0, none⟩ = some (.map (some B)) := (hC.2 0).1
  obtain ⟨q, cc, hv⟩ : ∃ q cc, (m s).getD (.slice none 0 0) = .slice q (ofR s (plL its)).length cc := owns_form hrow
  rw [hv, hcn] at hlk
  clear hR hC hrow hv hcn h
  go_wp2_with (fail)
  go_ret
  exact ⟨rfl, b1⟩

end Go.Proofs.Ytggbmpgpopenoab
