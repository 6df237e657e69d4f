/-
  A line that is an argument, by its cells. No conditions beyond what a law's row says of its argument.
-/
import Derived.Test.YtkdbcplcpcdnbaaItemArg
import Derived.Lib.SmallJoins
namespace Go.Proofs.Ytkdbcplcpcdnbaa
open Go.RowKit Go.ChangeShapes Go.WideShapes Go.ChangeAt
set_option maxRecDepth 100000

theorem five {α : Type} {cs : Array α} (h : cs.size = 5) : ∃ a b c d e, cs = #[a, b, c, d, e] := by
  obtain ⟨l⟩ := cs
  match l, h with
  | [a, b, c, d, e], _ => exact ⟨a, b, c, d, e, rfl⟩
theorem line_open {H : Type} {enc : TypeId × Value → H} {w : World} {base b0 : Nat} {r : Reach} {spare : Nat → Bool} {held : Bool} {v : Value} {dt : DataW H} {pl : List MemPlace}
    (hv : Value.okWide Try.prog w r b0 46 v) (h : DataW.Trod enc Try.prog w base spare held 46 v dt pl) :
    ∃ (kd : Int) (x : ItA), v = .agg #[.int .i64 kd, .string x.s, .int .i64 x.t, .int .i64 x.d, .slice x.p x.n x.c] ∧ x.Ok w := by
  have hs := Try.underlying46
  obtain ⟨cs, rfl, hsz⟩ := okWide_struct hs hv
  obtain ⟨u0, u1, u2, u3, u4, rfl⟩ := five (hsz.trans (by kernel_rfl))
  obtain ⟨fuel, hf⟩ := h
  obtain ⟨ys, n, _, _, _, hlen, hall⟩ := DataW.trod_struct hs hf
  obtain ⟨z0, z1, z2, z3, z4, hz⟩ := five (cs := ys.toArray) (by rw [List.size_toArray, hlen]; rfl)
  have hz' : ys = [z0, z1, z2, z3, z4] := by simpa using congrArg Array.toList hz
  subst hz'
  have c1 : Try.prog.cellsOf 3 = 1 := by kernel_rfl
  have c2 : Try.prog.cellsOf 9 = 1 := by kernel_rfl
  have c3 : Try.prog.cellsOf 22 = 1 := by kernel_rfl
  have t0 : DataW.trod enc Try.prog w base spare held n 3 (([u0, u1, u2, u3, u4].drop 0).take (Try.prog.cellsOf 3)) = _ := hall 0 _ rfl
  have t1 : DataW.trod enc Try.prog w base spare held n 9 (([u0, u1, u2, u3, u4].drop 1).take (Try.prog.cellsOf 9)) = _ := hall 1 _ rfl
  have t2 : DataW.trod enc Try.prog w base spare held n 3 (([u0, u1, u2, u3, u4].drop 2).take (Try.prog.cellsOf 3)) = _ := hall 2 _ rfl
  have t3 : DataW.trod enc Try.prog w base spare held n 3 (([u0, u1, u2, u3, u4].drop 3).take (Try.prog.cellsOf 3)) = _ := hall 3 _ rfl
  have t4 : DataW.trod enc Try.prog w base spare held n 22 (([u0, u1, u2, u3, u4].drop 4).take (Try.prog.cellsOf 22)) = _ := hall 4 _ rfl
  rw [c1] at t0 t2 t3
  rw [c2] at t1
  rw [c3] at t4
  simp only [List.drop_zero, List.drop_succ_cons, List.take_succ_cons, List.take_zero, List.getElem?_cons_zero, List.getElem?_cons_succ] at t0 t1 t2 t3 t4
  obtain ⟨kd, e0, _, _⟩ := DataW.trod_int Try.underlying3 t0
  simp only [List.cons.injEq, and_true] at e0
  subst e0
  obtain ⟨x, e, ok⟩ := item_cells t1 t2 t3 t4
  simp only [ItA.vals, List.cons.injEq, and_true] at e
  obtain ⟨rfl, rfl, rfl, rfl⟩ := e
  exact ⟨kd, x, rfl, ok⟩

end Go.Proofs.Ytkdbcplcpcdnbaa
