/-
  What the specification answers of a line that is read at a place where there are bytes enough. Conditions: bytes that lie there, as many as a law hands over.
-/
import Derived.Test.YtelfejgpphoifaaDoorSpecLineFront
namespace Go.Proofs.YtelfejgpphoifaaDoor
open Go.RowKit
set_option maxRecDepth 100000

set_option maxHeartbeats 4000000 in
theorem specLineOf_at (g o n c : Nat) (bs : List Int) (a : Nat) (w : World) (hn : n ≤ 1048576) (hx : bs.length = n) (h : BytesIn w (some ⟨g, o, none⟩) n bs) (hb : ∀ x ∈ bs, 0 ≤ x ∧ x < 256) (hc : n ≤ c) (hok : a + 18 + laN bs a ≤ n) :
    Calls Tryd.prog 4 #[.slice (some ⟨g, o, none⟩) n c, .int .i64 (a : Int)] w fun e w' => ∃ pt ct, e = .returned (if laB bs a = true then (.tuple #[.agg #[.int .i64 (laK bs a), .string (laS bs a), .int .i64 (laT bs a), .int .i64 (laD bs a), .slice pt (laN bs a) ct], .int .i64 ((a + 18 + laN bs a : Nat) : Int), .bool true]) else (.tuple #[.agg #[.int .i64 0, .string { data := #[] }, .int .i64 0, .int .i64 0, .slice none 0 0], .int .i64 0, .bool false])) ∧ Own 5 w' w.heap.size w'.heap.size (.slice pt (laN bs a) ct) (laN bs a) (laX bs a) ∧ Below w.heap.size w w' := by
  refine specLineOf_front g o n c bs a w hn hx h hb hc hok _ (fun K T DD M XS HS hK hT hD hM hX hH V B ge ce t2 t3 t5 t6 t8 t10 t11 t12 t13 t14 t15 t16 t17 t18 t19 t20 t21 t22 t23 t24 t25 t26 t27 t28 t29 t30 t31 t32 t33 t34 t35 t36 t37 t38 t39 t40 t41 t42 t43 t44 t45 t46 t47 t48 t49 t50 t51 t52 t53 t54 t55 t56 t57 t58 t59 t60 t61 t62 t63 t64 t65 t66 t67 t68 t69 t70 t71 t72 t73 t74 t75 t76 t77 t78 t79 t80 C0 CV rV hne hnz hgV hB hgl kV => ?_)
  have hN := laN_lt hb a
  have len : ∀ l k, l + k ≤ n → ((bs.drop l).take k).length = k := fun l k hk => by rw [List.length_take, List.length_drop]; omega
  have cut : ∀ X, Below w.heap.size w X → ∀ l k, l + k ≤ n → BytesIn X (some ⟨g, o + l, none⟩) k ((bs.drop l).take k) := fun X hX l k hk => in_cut (in_below h hX) l k hk
  have hXl := laX_len (bs := bs) (a := a) (by omega)
  have hSz : (laS bs a).size ≤ 1048576 := by
    unfold laS
    split
    · exact Nat.zero_le _
    · rw [strOfNums_size, hexL_two, len (a + 1) 8 (by omega)]
      omega
  have hS : Hid (laS bs a = if K = 3 then ByteArray.empty else HS) := by rw [Hid, hK.out, ← hH.out]; rfl
  obtain rfl := hK.out
  obtain rfl := hT.out
  obtain rfl := hD.out
  obtain rfl := hM.out
  obtain rfl := hX.out
  have s18 := cut_mid g o n c a (a + 18 + laN bs a) (by omega) (by omega) (by omega)
  rw [show a + 18 + laN bs a - a = 18 + laN bs a by omega] at s18
  exact specLineOf_end w V g o n c a B (laN bs a) (lineN (laK bs a) (laS bs a) (laT bs a) (laD bs a) (laN bs a)) (a + 18 + laN bs a) (18 + laN bs a) (a + 18) ge ce (laK bs a) (laT bs a) (laD bs a) HS (laS bs a) (laX bs a) (lineL (laK bs a) (laS bs a) (laT bs a) (laD bs a) (laN bs a) (laX bs a)) (laB bs a) _ t2 t3 t5 t6 t8 t10 t11 t12 t13 t14 t15 t16 t17 t18 t19 t20 t21 t22 t23 t24 t25 t26 t27 t28 t29 t30 t31 t32 t33 t34 t35 t36 t37 t38 t39 t40 t41 t42 t43 t44 t45 t46 t47 t48 t49 t50 t51 t52 t53 t54 t55 t56 t57 t58 t59 t60 t61 t62 t63 t64 t65 t66 t67 t68 t69 t70 t71 t72 t73 t74 t75 t76 t77 t78 t79 t80
    C0 CV rV hne hnz hgV hB kV hS
    (fun X p' c' hX => specLineBytes_any _ _ _ _ _ _ _ _ X hSz (by omega) hXl hX)
    (fun X q cq hl hX hw => specSame_any _ _ _ _ _ _ _ _ X hl (len a (18 + laN bs a) (by omega)) hX (cut X hw a (18 + laN bs a) (by omega)))
    s18 (by rw [IntKind.wrap_i64]; omega) (by rw [IntKind.wrap_i64]; omega)
    (fun hB X rX kX gX => ⟨some ⟨ge, 0, none⟩, ce, by rw [if_pos hB], own_wide rX.own hgl gX, kX⟩)
    (fun hB X rX kX gX => ⟨some ⟨ge, 0, none⟩, ce, by rw [if_neg (by rw [hB]; decide)], own_wide rX.own hgl gX, kX⟩)

end Go.Proofs.YtelfejgpphoifaaDoor
