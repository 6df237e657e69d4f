/-
  'append([]byte{}, xs...)' in a region that draws its order, none of xs too. Conditions: bytes that lie there.
  'append([]byte{}, xs...)' in a region that draws its order, none of xs too; all that is known of what grew. Conditions: bytes that lie there.
-/
import Derived.Test.YthfnechcddmjkaaGreatDoorPar03
import Derived.Test.YthfnechcddmjkaaGreatDoorPar06
namespace Go.Proofs.YthfnechcddmjkaaGreatDoor
open Go.RowKit
set_option maxRecDepth 100000

end Go.Proofs.YthfnechcddmjkaaGreatDoor

namespace Go.Proofs.YthfnechcddmjkaaGreatDoor
open Go.RowKit
set_option maxRecDepth 100000

theorem step_fresh_all {P : Program} {ops : Array Oper} {o : Oper} {a : Act} {K : Act → World → Prop} {Q : Exit → Act → World → Prop} {E : Prop} {i : TypeInfo} {wr w0 : World} {B m c lo : Nat} {p : Option Addr} {ys : List Int}
    (hi : P.info? 5 = some i) (hz : i.zero = some (.int .u8 0)) (hsize : i.size = 1) (hby : i.bytes = 1) (s y : Operand) (t : TypeId) (ht : P.underlying t = some (.slice 5)) (hgd : o.guard = none) (ho : o.op = .call { callee := .builtin .append, args := #[s, y], argTypes := #[t, t] }) (hs : a.eval s = .slice (some ⟨B, 0, none⟩) 0 0) (hy : a.eval y = .slice p m c)
    (hE : Emp wr B) (hin : BytesIn wr p m ys) (hl : ys.length = m) (hm' : m ≤ 1048576) (hb : Below lo w0 wr) (hlo : lo ≤ B)
    (h : ∀ g cap w', RowAt w' g cap m ys → (g = B ∨ g = wr.heap.size) → g < w'.heap.size → wr.heap.size ≤ w'.heap.size → wr.grownBy w' (some B) → Below lo w0 w' → K (a.put o.dst (.slice (some ⟨g, 0, none⟩) m cap)) w') :
    if Region.wanted o (yielded ops a.tmps) = true then Oper.wp P o a wr K Q else E := by
  rcases Nat.eq_zero_or_pos m with h0 | h0
  · subst h0
    obtain rfl : ys = [] := List.eq_nil_of_length_eq_zero hl
    have hw : Region.wanted o (yielded ops a.tmps) = true := by simp [Region.wanted, hgd]
    rw [if_pos hw]
    have hr := append_empty (P := P) wr t o.type 5 i ht hi (some ⟨B, 0, none⟩) 0 0 p c (Nat.le_refl _)
    unfold Oper.wp execOp
    simp only [ho, resolve, invoke, builtin, Sem.run_bind, Sem.run_pure, Result.andThen_ok, List.map_toArray, List.map_cons, List.map_nil, hs, hy, hr]
    exact h B 0 wr ⟨rfl, .inr ⟨B, 0, #[], rfl, Nat.le_refl _, hE, Nat.le_refl _, Nat.zero_le _, rfl, rfl⟩⟩ (.inl rfl) hE.lt (Nat.le_refl _) (World.grownBy.refl _ _) hb
  · exact step_fresh hi hz hsize hby s y t ht hgd ho hs hy hE hin hl h0 hm' hb hlo h

end Go.Proofs.YthfnechcddmjkaaGreatDoor
