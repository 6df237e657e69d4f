/-
  A region that draws its order, some of whose loads read cells that its stores write: T is held of the world to the region's end, S only until operation m (the first of the stores) has come up. (Over the kit's Derived.OrdersHeld.) Conditions: each law's own.
  (*shelf).add: one more waits, behind all. Conditions: a shelf of no more than a law hands over.
  The specification's own copies of items, the bytes of each too. Conditions: items that lie there, as many as a law hands over.
  How many items there are of a route, as the specification counts them; conditions: items that lie there, as many as a law hands over.
-/
import Derived.Deep.RegionHeld3
import Derived.Test.YtkdbcplcpcdnbaaPart02
import Derived.Test.YtkdbcplcpcdnbaaPart01
namespace Go.Proofs.Ytkdbcplcpcdnbaa
set_option maxRecDepth 100000

section
variable {P : Program} {ops : Array Oper} {Q : Exit → Act → World → Prop} {T S : World → Prop} {m : Nat}

def AnyT (P : Program) (ops : Array Oper) (Q : Exit → Act → World → Prop) (T S : World → Prop) (m : Nat) : Nat → Array Bool → Act → World → Prop
  | 0, listed, a, w => Region.ready .any ops listed = [] ∧ Q .normal a w
  | fuel + 1, listed, a, w => (Region.ready .any ops listed = [] → Q .normal a w) ∧ ∀ i ∈ Region.ready .any ops listed, wpOp P ops Q i (fun a' w' => T w' ∧ ((listed.setIfInBounds i true).getD m true = false → S w') ∧ AnyT P ops Q T S m fuel (listed.setIfInBounds i true) a' w') a w

theorem AnyT.any : ∀ (fuel : Nat) (listed : Array Bool) (a : Act) (w : World), AnyT P ops Q T S m fuel listed a w → wpAny P .any ops Q fuel listed a w
  | 0, _, _, _, h => h
  | fuel + 1, _, _, _, h => ⟨h.1, fun i hi => wpOp_mono (fun a' w' k => AnyT.any fuel _ a' w' k.2.2) (h.2 i hi)⟩

theorem anyT_firstS {i : Nat} {oi om : Oper} {v : Value} (hi : ops[i]? = some oi) (hm : ops[m]? = some om) (him : i ≠ m) (hwait : ∃ e ∈ om.after, Region.binds .any e = true ∧ e.on = i) (hsel : ∀ (j : Nat) (o : Oper) cs b, ops[j]? = some o → o.op ≠ .select cs b)
    (hQ : ∀ c a w, Q (.panic c) (a.put oi.dst v) w → Q (.panic c) a w) :
    ∀ (fuel : Nat) (listed : Array Bool) (a : Act) (w : World),
      (∀ j oj, ops[j]? = some oj → j ≠ i → listed.getD j true = false → (∀ e ∈ oj.after, Region.binds .any e = true → e.on ≠ i) → oi.apart ops oj = true) →
      i ∈ Region.ready .any ops listed → YieldsIf P ops (fun w => T w ∧ S w) oi v a → T w → (listed.getD m true = false → S w) → listed.getD m true = false →
      AnyT P ops Q T S m fuel (listed.setIfInBounds i true) (a.put oi.dst v) w → AnyT P ops Q T S m (fuel + 1) listed a w := by
  intro fuel
  induction fuel with
  | zero =>
    intro listed a w _ hr hy hT hS hlm H
    refine ⟨fun h => absurd hr (by rw [h]; exact List.not_mem_nil), fun j hj => ?_⟩
    by_cases hji : j = i
    · subst hji; exact hy.wpOp hi ⟨hT, hS hlm⟩ ⟨hT, fun h => hS (by rwa [getD_set_ne true him] at h), H⟩
    · exact absurd (ready_mono hj hji) (by rw [H.1]; exact List.not_mem_nil)
  | succ fuel ih =>
    intro listed a w hfree hr hy hT hS hlm H
    refine ⟨fun h => absurd hr (by rw [h]; exact List.not_mem_nil), fun j hj => ?_⟩
    by_cases hji : j = i
    · subst hji; exact hy.wpOp hi ⟨hT, hS hlm⟩ ⟨hT, fun h => hS (by rwa [getD_set_ne true him] at h), H⟩
    · have hun : listed.getD i true = false := (mem_ready.1 hr).1
      obtain ⟨hjun, oj, hoj, hall⟩ := mem_ready.1 hj
      have hnot : ∀ e ∈ oj.after, Region.binds .any e = true → e.on ≠ i := fun e he hb heq => by
        have h1 := hall e he hb
        rw [heq] at h1
        rcases Nat.lt_or_ge i listed.size with h' | h'
        · simp [h'] at hun h1
          rw [hun] at h1
          cases h1
        · simp [Array.getElem?_eq_none h'] at h1
      have hjm : j ≠ m := fun e => by
        subst e
        rw [hoj] at hm
        cases hm
        obtain ⟨e, he, hb, ho⟩ := hwait
        exact hnot e he hb ho
      have hlm' : (listed.setIfInBounds j true).getD m true = false := by rw [getD_set_ne true hjm]; exact hlm
      have h2 := wpOp_putIf hoj (hfree j oj hoj hji hjun hnot) (fun cs b => hsel i oi cs b hi) (fun cs b => hsel j oj cs b hoj) hQ hy (H.2 j (ready_mono hj hji))
      refine wpOp_mono (fun a' w' k => ?_) h2
      obtain ⟨k1, k2, k3, k4⟩ := k
      rw [Array.setIfInBounds_comm _ _ (Ne.symm hji)] at k3 k4
      have hS' : (listed.setIfInBounds j true).getD m true = false → S w' := fun h => k3 (by rw [getD_set_ne true him]; exact h)
      refine ⟨k2, hS', ih _ a' w' (fun q oq hq hqi hqu hqn => hfree q oq hq hqi ?_ hqn) (ready_mono hr (Ne.symm hji)) k1 k2 hS' hlm' k4⟩
      by_cases hjq : j = q
      · subst hjq; exact hjun
      · rw [getD_set_ne true hjq] at hqu; exact hqu

theorem anyT_firstT {i : Nat} {oi : Oper} {v : Value} (hi : ops[i]? = some oi) (him : i ≠ m) (hsel : ∀ (j : Nat) (o : Oper) cs b, ops[j]? = some o → o.op ≠ .select cs b)
    (hQ : ∀ c a w, Q (.panic c) (a.put oi.dst v) w → Q (.panic c) a w) :
    ∀ (fuel : Nat) (listed : Array Bool) (a : Act) (w : World),
      (∀ j oj, ops[j]? = some oj → j ≠ i → listed.getD j true = false → (∀ e ∈ oj.after, Region.binds .any e = true → e.on ≠ i) → oi.apart ops oj = true) →
      i ∈ Region.ready .any ops listed → YieldsIf P ops T oi v a → T w → (listed.getD m true = false → S w) →
      AnyT P ops Q T S m fuel (listed.setIfInBounds i true) (a.put oi.dst v) w → AnyT P ops Q T S m (fuel + 1) listed a w := by
  intro fuel
  induction fuel with
  | zero =>
    intro listed a w _ hr hy hT hS H
    refine ⟨fun h => absurd hr (by rw [h]; exact List.not_mem_nil), fun j hj => ?_⟩
    by_cases hji : j = i
    · subst hji; exact hy.wpOp hi hT ⟨hT, fun h => hS (by rwa [getD_set_ne true him] at h), H⟩
    · exact absurd (ready_mono hj hji) (by rw [H.1]; exact List.not_mem_nil)
  | succ fuel ih =>
    intro listed a w hfree hr hy hT hS H
    refine ⟨fun h => absurd hr (by rw [h]; exact List.not_mem_nil), fun j hj => ?_⟩
    by_cases hji : j = i
    · subst hji; exact hy.wpOp hi hT ⟨hT, fun h => hS (by rwa [getD_set_ne true him] at h), H⟩
    · have hun : listed.getD i true = false := (mem_ready.1 hr).1
      obtain ⟨hjun, oj, hoj, hall⟩ := mem_ready.1 hj
      have hnot : ∀ e ∈ oj.after, Region.binds .any e = true → e.on ≠ i := fun e he hb heq => by
        have h1 := hall e he hb
        rw [heq] at h1
        rcases Nat.lt_or_ge i listed.size with h' | h'
        · simp [h'] at hun h1
          rw [hun] at h1
          cases h1
        · simp [Array.getElem?_eq_none h'] at h1
      have h2 := wpOp_putIf hoj (hfree j oj hoj hji hjun hnot) (fun cs b => hsel i oi cs b hi) (fun cs b => hsel j oj cs b hoj) hQ hy (H.2 j (ready_mono hj hji))
      refine wpOp_mono (fun a' w' k => ?_) h2
      obtain ⟨k1, k2, k3, k4⟩ := k
      rw [Array.setIfInBounds_comm _ _ (Ne.symm hji)] at k3 k4
      have hS' : (listed.setIfInBounds j true).getD m true = false → S w' := fun h => k3 (by rw [getD_set_ne true him]; exact h)
      refine ⟨k2, hS', ih _ a' w' (fun q oq hq hqi hqu hqn => hfree q oq hq hqi ?_ hqn) (ready_mono hr (Ne.symm hji)) k1 k2 hS' k4⟩
      by_cases hjq : j = q
      · subst hjq; exact hjun
      · rw [getD_set_ne true hjq] at hqu; exact hqu

/-- Take number i first: it is read ahead of operation m. -/
theorem anyT_takeS {i : Nat} {oi om : Oper} {v : Value} {fuel : Nat} {listed : Array Bool} {a : Act} {w : World} (hi : ops[i]? = some oi) (hm : ops[m]? = some om) (him : (i != m && om.after.any (fun e => Region.binds .any e && e.on == i)) = true)
    (hs : Region.noSelect ops = true) (hf : Region.free .any ops listed i = true) (hr : (Region.ready .any ops listed).contains i = true) (hlm : listed.getD m true = false)
    (hQ : ∀ c a w, Q (.panic c) (a.put oi.dst v) w → Q (.panic c) a w) (hy : YieldsIf P ops (fun w => T w ∧ S w) oi v a) (hT : T w) (hS : S w)
    (h : AnyT P ops Q T S m fuel (listed.setIfInBounds i true) (a.put oi.dst v) w) : AnyT P ops Q T S m (fuel + 1) listed a w := by
  rw [Bool.and_eq_true] at him
  refine anyT_firstS hi hm (by simpa using him.1) ?_ (Region.noSelect_spec hs) hQ fuel listed a w (Region.free_spec hi hf) (by simpa using hr) hy hT (fun _ => hS) hlm h
  obtain ⟨e, he, hb⟩ := Array.any_eq_true'.1 him.2
  rw [Bool.and_eq_true] at hb
  exact ⟨e, he, hb.1, by simpa using hb.2⟩

/-- Take number i first: what it reads stands to the end. -/
theorem anyT_takeT {i : Nat} {oi : Oper} {v : Value} {fuel : Nat} {listed : Array Bool} {a : Act} {w : World} (hi : ops[i]? = some oi) (him : (i != m) = true)
    (hs : Region.noSelect ops = true) (hf : Region.free .any ops listed i = true) (hr : (Region.ready .any ops listed).contains i = true)
    (hQ : ∀ c a w, Q (.panic c) (a.put oi.dst v) w → Q (.panic c) a w) (hy : YieldsIf P ops T oi v a) (hT : T w) (hS : listed.getD m true = false → S w)
    (h : AnyT P ops Q T S m fuel (listed.setIfInBounds i true) (a.put oi.dst v) w) : AnyT P ops Q T S m (fuel + 1) listed a w :=
  anyT_firstT hi (by simpa using him) (Region.noSelect_spec hs) hQ fuel listed a w (Region.free_spec hi hf) (by simpa using hr) hy hT hS h

/-- Only number i may come up now. -/
theorem anyT_one {i : Nat} {o : Oper} {fuel : Nat} {listed : Array Bool} {a : Act} {w : World} (hr : Region.ready .any ops listed = [i]) (ho : ops[i]? = some o)
    (h : ∀ K' : Act → World → Prop, Go.Shut (∀ a w, T w → ((listed.setIfInBounds i true).getD m true = false → S w) → AnyT P ops Q T S m fuel (listed.setIfInBounds i true) a w → K' a w) → if Region.wanted o (yielded ops a.tmps) = true then Oper.wp P o a w K' Q else K' (a.put o.dst undef) w) :
    AnyT P ops Q T S m (fuel + 1) listed a w := by
  refine ⟨fun e => absurd (hr.symm.trans e) (by simp), fun j hj => ?_⟩
  rw [hr, List.mem_singleton] at hj
  subst hj
  exact wpOp_step ho (fun K' hK => h K' (fun a w h0 h1 h2 => hK a w ⟨h0, h1, h2⟩))

theorem anyT_done {listed : Array Bool} {a : Act} {w : World} (hr : Region.ready .any ops listed = []) (h : Q .normal a w) : ∀ fuel, AnyT P ops Q T S m fuel listed a w
  | 0 => ⟨hr, h⟩
  | _ + 1 => ⟨fun _ => h, by rw [hr]; simp⟩

/-- The beginning. -/
theorem wp_region_T (m : Nat) (T S : World → Prop) {id : Nat} {a : Act} {w : World} (hm : P.follows .mixedOrders = true) (h : AnyT P ops Q T S m ops.size (Array.replicate ops.size false) a w.drew) : (Code.region id ops true).wp P Q a w :=
  wp_region_any hm (h.any)
end

end Go.Proofs.Ytkdbcplcpcdnbaa

namespace Go.Proofs.Ytkdbcplcpcdnbaa
open Go.RowKit
set_option maxRecDepth 100000

theorem build_placed (k : Int) (s : ByteArray) (t d : Int) (p : Option Addr) (n c : Nat) (X : World) :
    (Instr.build 102 #[(0, .int .i64 k), (1, .agg #[.string s, .int .i64 t, .int .i64 d, .slice p n c])]).run Try.prog X = .ok (.agg #[.int .i64 k, .string s, .int .i64 t, .int .i64 d, .slice p n c]) X := by kernel_rfl
theorem build_row (k : Int) (s : ByteArray) (t d : Int) (p : Option Addr) (n c : Nat) (X : World) :
    (Instr.buildSlice 76 1 #[(0, .agg #[.int .i64 k, .string s, .int .i64 t, .int .i64 d, .slice p n c])]).run Try.prog X = .ok (.slice (some ⟨X.heap.size, 0, none⟩) 1 1) (X.alloc (.cells #[.int .i64 k, .string s, .int .i64 t, .int .i64 d, .slice p n c] 102)) := by kernel_rfl
theorem infoPlaced : (Try.prog.info? 102).map (fun i => (i.zero, i.size, i.bytes)) = some (some (.agg #[.int .i64 0, .string ByteArray.empty, .int .i64 0, .int .i64 0, .slice none 0 0]), 5, 64) := by kernel_rfl
theorem World.grownBy_refl' (w : World) (r : Option Nat) : w.grownBy w r := ⟨rfl, rfl, rfl, Nat.le_refl _, fun _ _ _ => rfl⟩

set_option maxHeartbeats 8000000 in
theorem add_any (w : World) (lo S : Nat) (L : List PIt) (nx : Int) (N : Nat) (s : ByteArray) (t d : Int) (p : Option Addr) (n c : Nat) (xs : List Int) (hs : s.size ≤ 1048576) (hN : N ≤ 1048577) (hL : L.length ≤ 1048577) (hnx : 0 ≤ nx ∧ nx ≤ 1048577) (h : Shelf w lo S L nx N) :
    Calls Try.prog 44 #[.pointer (some ⟨S, 0, none⟩), .string s, .agg #[.string s, .int .i64 t, .int .i64 d, .slice p n c]] w fun e w' => e = .returned (.tuple #[]) ∧ Shelf w' lo S (L ++ [⟨nx, ⟨s, t, d, p, n, c, xs⟩⟩]) (nx + 1) (N + 1) ∧ Below lo w w' := by
  obtain ⟨i0, hi, hz0, hz1, hz2⟩ := info_parts infoPlaced
  obtain ⟨B, nn, m, hC, hlo, hnN, hR⟩ := h
  have hSw := hC.1
  obtain ⟨w1, hw1⟩ : ∃ w1, w1 = w.alloc (.cells #[.string s, .int .i64 t, .int .i64 d, .slice p n c] 26) := ⟨_, rfl⟩
  have b1 : Below w.heap.size w w1 := by rw [hw1]; exact made_below _ _ (Below.refl _ _)
  have CX : Cells w1 w.heap.size #[.string s, .int .i64 t, .int .i64 d, .slice p n c] := by rw [hw1]; exact Cells.made _ _ _
  have hC1 := hC.on b1
  have hR1 := hR.on b1
  replace hw1 : Hid (w.alloc (.cells #[.string s, .int .i64 t, .int .i64 d, .slice p n c] 26) = w1) := hw1.symm
  obtain ⟨BX, hBX⟩ : ∃ BX, BX = w.heap.size := ⟨_, rfl⟩
  rw [← hBX] at CX
  obtain ⟨v0, hv0⟩ : ∃ v0, v0 = (m s).getD (.slice none 0 0) := ⟨_, rfl⟩
  have hrow0 := hR1.row s
  rw [← hv0] at hrow0
  replace hv0 : Hid (v0 = (m s).getD (.slice none 0 0)) := hv0
  have hv0B : some B ≠ v0.ownBlock := fun e => row_not_map hR1.map hrow0 e.symm
  have hv0S : some S ≠ v0.ownBlock := fun e => by
    cases hz : m s with
    | none => rw [hv0.out, hz] at e; simp [Value.ownBlock] at e
    | some u => rw [hv0.out, hz] at e; exact hR.off s u hz e.symm
  have hv0X : some BX ≠ v0.ownBlock := fun e => by
    have hr := hR.row s
    rw [← hv0.out] at hr
    have := (hr.lt BX e.symm).2
    omega
  have HS : ∀ X, w1.drew.grownBy X v0.ownBlock → X.cell? ⟨S, 0, none⟩ = some (.map (some B)) ∧ X.cell? ⟨S, 1, none⟩ = some (.int .i64 nx) ∧ X.cell? ⟨BX, 0, none⟩ = some (.string s) ∧ X.cell? ⟨BX, 1, none⟩ = some (.int .i64 t) ∧ X.cell? ⟨BX, 2, none⟩ = some (.int .i64 d) ∧ X.cell? ⟨BX, 3, none⟩ = some (.slice p n c) ∧ (Instr.lookup 73 (.map (some B)) (.string s) false).run Try.prog X = .ok v0 X := by
    intro X hX
    have g : w1.grownBy X v0.ownBlock := (drew_grown w1 _).trans hX
    have a1 := hC1.grown g hv0S
    have a2 := CX.grown g hv0X
    refine ⟨(a1.2 0).1, (a1.2 1).1, (a2.2 0).1, (a2.2 1).1, (a2.2 2).1, (a2.2 3).1, ?_⟩
    rw [(hR1.map.kept g hv0B).look s hs, ← hv0.out]
  have hb1 : lo ≤ w1.heap.size := by have := b1.size; omega
  have hk1 : Below lo w w1 := b1.mono (by omega)
  have hlen := ofR_len s L
  clear hC hR b1
  go_enter Try.func44, Try.ntmps44
  go_wp2_with (rw [hw1.out])
  rw [← hBX]
  clear hw1 hBX
  refine wp_region_noPanic ?_
  refine wp_region_T 19 (fun _ => True) (fun X => X.cell? ⟨S, 0, none⟩ = some (.map (some B)) ∧ X.cell? ⟨S, 1, none⟩ = some (.int .i64 nx) ∧ X.cell? ⟨BX, 0, none⟩ = some (.string s) ∧ X.cell? ⟨BX, 1, none⟩ = some (.int .i64 t) ∧ X.cell? ⟨BX, 2, none⟩ = some (.int .i64 d) ∧ X.cell? ⟨BX, 3, none⟩ = some (.slice p n c) ∧ (Instr.lookup 73 (.map (some B)) (.string s) false).run Try.prog X = .ok v0 X) (by kernel_rfl) ?_
  refine anyT_takeS (i := 0) (v := .pointer (some ⟨S, 0, none⟩)) rfl rfl (by kernel_rfl) (by kernel_rfl) (by kernel_rfl) (by kernel_rfl) (by kernel_rfl) (fun _ _ _ h => h) (Or.inl ⟨by rfl, fun X hSw => by (obtain ⟨_, q0, q1, q2, q3, q4, q5, q6⟩ := hSw; go_simp)⟩) trivial (HS _ (World.grownBy_refl' _ _)) ?_
  simp only [Act.put, List.getElem_toArray, List.getElem_cons_zero, List.setIfInBounds_toArray, List.set_cons_zero, List.set_cons_succ]
  refine anyT_takeS (i := 1) (v := .pointer (some ⟨S, 0, none⟩)) rfl rfl (by kernel_rfl) (by kernel_rfl) (by kernel_rfl) (by kernel_rfl) (by kernel_rfl) (fun _ _ _ h => h) (Or.inl ⟨by rfl, fun X hSw => by (obtain ⟨_, q0, q1, q2, q3, q4, q5, q6⟩ := hSw; go_simp)⟩) trivial (HS _ (World.grownBy_refl' _ _)) ?_
  simp only [Act.put, List.getElem_toArray, List.getElem_cons_zero, List.getElem_cons_succ, List.setIfInBounds_toArray, List.set_cons_zero, List.set_cons_succ]
  refine anyT_takeS (i := 2) (v := .pointer (some ⟨S, 0, none⟩)) rfl rfl (by kernel_rfl) (by kernel_rfl) (by kernel_rfl) (by kernel_rfl) (by kernel_rfl) (fun _ _ _ h => h) (Or.inl ⟨by rfl, fun X hSw => by (obtain ⟨_, q0, q1, q2, q3, q4, q5, q6⟩ := hSw; go_simp)⟩) trivial (HS _ (World.grownBy_refl' _ _)) ?_
  simp only [Act.put, List.getElem_toArray, List.getElem_cons_zero, List.getElem_cons_succ, List.setIfInBounds_toArray, List.set_cons_zero, List.set_cons_succ]
  refine anyT_takeS (i := 3) (v := .map (some B)) rfl rfl (by kernel_rfl) (by kernel_rfl) (by kernel_rfl) (by kernel_rfl) (by kernel_rfl) (fun _ _ _ h => h) (Or.inl ⟨by rfl, fun X hSw => by (obtain ⟨_, q0, q1, q2, q3, q4, q5, q6⟩ := hSw; go_simp)⟩) trivial (HS _ (World.grownBy_refl' _ _)) ?_
  simp only [Act.put, List.getElem_toArray, List.getElem_cons_zero, List.getElem_cons_succ, List.setIfInBounds_toArray, List.set_cons_zero, List.set_cons_succ]
  refine anyT_takeS (i := 4) (v := .string s) rfl rfl (by kernel_rfl) (by kernel_rfl) (by kernel_rfl) (by kernel_rfl) (by kernel_rfl) (fun _ _ _ h => h) (Or.inl ⟨by rfl, fun X hSw => by (obtain ⟨_, q0, q1, q2, q3, q4, q5, q6⟩ := hSw; go_simp)⟩) trivial (HS _ (World.grownBy_refl' _ _)) ?_
  simp only [Act.put, List.getElem_toArray, List.getElem_cons_zero, List.getElem_cons_succ, List.setIfInBounds_toArray, List.set_cons_zero, List.set_cons_succ]
  refine anyT_takeS (i := 5) (v := .pointer (some ⟨S, 0, none⟩)) rfl rfl (by kernel_rfl) (by kernel_rfl) (by kernel_rfl) (by kernel_rfl) (by kernel_rfl) (fun _ _ _ h => h) (Or.inl ⟨by rfl, fun X hSw => by (obtain ⟨_, q0, q1, q2, q3, q4, q5, q6⟩ := hSw; go_simp)⟩) trivial (HS _ (World.grownBy_refl' _ _)) ?_
  simp only [Act.put, List.getElem_toArray, List.getElem_cons_zero, List.getElem_cons_succ, List.setIfInBounds_toArray, List.set_cons_zero, List.set_cons_succ]
  refine anyT_takeS (i := 6) (v := .pointer (some ⟨S, 0, none⟩)) rfl rfl (by kernel_rfl) (by kernel_rfl) (by kernel_rfl) (by kernel_rfl) (by kernel_rfl) (fun _ _ _ h => h) (Or.inl ⟨by rfl, fun X hSw => by (obtain ⟨_, q0, q1, q2, q3, q4, q5, q6⟩ := hSw; go_simp)⟩) trivial (HS _ (World.grownBy_refl' _ _)) ?_
  simp only [Act.put, List.getElem_toArray, List.getElem_cons_zero, List.getElem_cons_succ, List.setIfInBounds_toArray, List.set_cons_zero, List.set_cons_succ]
  refine anyT_takeS (i := 7) (v := .pointer (some ⟨S, 0, none⟩)) rfl rfl (by kernel_rfl) (by kernel_rfl) (by kernel_rfl) (by kernel_rfl) (by kernel_rfl) (fun _ _ _ h => h) (Or.inl ⟨by rfl, fun X hSw => by (obtain ⟨_, q0, q1, q2, q3, q4, q5, q6⟩ := hSw; go_simp)⟩) trivial (HS _ (World.grownBy_refl' _ _)) ?_
  simp only [Act.put, List.getElem_toArray, List.getElem_cons_zero, List.getElem_cons_succ, List.setIfInBounds_toArray, List.set_cons_zero, List.set_cons_succ]
  refine anyT_takeS (i := 8) (v := .map (some B)) rfl rfl (by kernel_rfl) (by kernel_rfl) (by kernel_rfl) (by kernel_rfl) (by kernel_rfl) (fun _ _ _ h => h) (Or.inl ⟨by rfl, fun X hSw => by (obtain ⟨_, q0, q1, q2, q3, q4, q5, q6⟩ := hSw; go_simp)⟩) trivial (HS _ (World.grownBy_refl' _ _)) ?_
  simp only [Act.put, List.getElem_toArray, List.getElem_cons_zero, List.getElem_cons_succ, List.setIfInBounds_toArray, List.set_cons_zero, List.set_cons_succ]
  refine anyT_takeS (i := 9) (v := .string s) rfl rfl (by kernel_rfl) (by kernel_rfl) (by kernel_rfl) (by kernel_rfl) (by kernel_rfl) (fun _ _ _ h => h) (Or.inl ⟨by rfl, fun X hSw => by (obtain ⟨_, q0, q1, q2, q3, q4, q5, q6⟩ := hSw; go_simp)⟩) trivial (HS _ (World.grownBy_refl' _ _)) ?_
  simp only [Act.put, List.getElem_toArray, List.getElem_cons_zero, List.getElem_cons_succ, List.setIfInBounds_toArray, List.set_cons_zero, List.set_cons_succ]
  refine anyT_takeS (i := 10) (v := v0) rfl rfl (by kernel_rfl) (by kernel_rfl) (by kernel_rfl) (by kernel_rfl) (by kernel_rfl) (fun _ _ _ h => h) (Or.inl ⟨by rfl, fun X hSw => by (obtain ⟨_, q0, q1, q2, q3, q4, q5, q6⟩ := hSw; simp [execOp, Act.eval, q6, Result.andThen])⟩) trivial (HS _ (World.grownBy_refl' _ _)) ?_
  simp only [Act.put, List.getElem_toArray, List.getElem_cons_zero, List.getElem_cons_succ, List.setIfInBounds_toArray, List.set_cons_zero, List.set_cons_succ]
  refine anyT_takeS (i := 11) (v := .pointer (some ⟨S, 0, none⟩)) rfl rfl (by kernel_rfl) (by kernel_rfl) (by kernel_rfl) (by kernel_rfl) (by kernel_rfl) (fun _ _ _ h => h) (Or.inl ⟨by rfl, fun X hSw => by (obtain ⟨_, q0, q1, q2, q3, q4, q5, q6⟩ := hSw; go_simp)⟩) trivial (HS _ (World.grownBy_refl' _ _)) ?_
  simp only [Act.put, List.getElem_toArray, List.getElem_cons_zero, List.getElem_cons_succ, List.setIfInBounds_toArray, List.set_cons_zero, List.set_cons_succ]
  refine anyT_takeS (i := 12) (v := .pointer (some ⟨S, 0, none⟩)) rfl rfl (by kernel_rfl) (by kernel_rfl) (by kernel_rfl) (by kernel_rfl) (by kernel_rfl) (fun _ _ _ h => h) (Or.inl ⟨by rfl, fun X hSw => by (obtain ⟨_, q0, q1, q2, q3, q4, q5, q6⟩ := hSw; go_simp)⟩) trivial (HS _ (World.grownBy_refl' _ _)) ?_
  simp only [Act.put, List.getElem_toArray, List.getElem_cons_zero, List.getElem_cons_succ, List.setIfInBounds_toArray, List.set_cons_zero, List.set_cons_succ]
  refine anyT_takeS (i := 13) (v := .pointer (some ⟨S, 1, none⟩)) rfl rfl (by kernel_rfl) (by kernel_rfl) (by kernel_rfl) (by kernel_rfl) (by kernel_rfl) (fun _ _ _ h => h) (Or.inl ⟨by rfl, fun X hSw => by (obtain ⟨_, q0, q1, q2, q3, q4, q5, q6⟩ := hSw; go_simp)⟩) trivial (HS _ (World.grownBy_refl' _ _)) ?_
  simp only [Act.put, List.getElem_toArray, List.getElem_cons_zero, List.getElem_cons_succ, List.setIfInBounds_toArray, List.set_cons_zero, List.set_cons_succ]
  refine anyT_takeS (i := 14) (v := .int .i64 nx) rfl rfl (by kernel_rfl) (by kernel_rfl) (by kernel_rfl) (by kernel_rfl) (by kernel_rfl) (fun _ _ _ h => h) (Or.inl ⟨by rfl, fun X hSw => by (obtain ⟨_, q0, q1, q2, q3, q4, q5, q6⟩ := hSw; go_simp)⟩) trivial (HS _ (World.grownBy_refl' _ _)) ?_
  simp only [Act.put, List.getElem_toArray, List.getElem_cons_zero, List.getElem_cons_succ, List.setIfInBounds_toArray, List.set_cons_zero, List.set_cons_succ]
  refine anyT_takeS (i := 15) (v := .agg #[.string s, .int .i64 t, .int .i64 d, .slice p n c]) rfl rfl (by kernel_rfl) (by kernel_rfl) (by kernel_rfl) (by kernel_rfl) (by kernel_rfl) (fun _ _ _ h => h) (Or.inl ⟨by rfl, fun X hSw => by (obtain ⟨_, q0, q1, q2, q3, q4, q5, q6⟩ := hSw; go_simp)⟩) trivial (HS _ (World.grownBy_refl' _ _)) ?_
  simp only [Act.put, List.getElem_toArray, List.getElem_cons_zero, List.getElem_cons_succ, List.setIfInBounds_toArray, List.set_cons_zero, List.set_cons_succ]
  refine anyT_takeS (i := 16) (v := .agg #[.int .i64 nx, .string s, .int .i64 t, .int .i64 d, .slice p n c]) rfl rfl (by kernel_rfl) (by kernel_rfl) (by kernel_rfl) (by kernel_rfl) (by kernel_rfl) (fun _ _ _ h => h) (Or.inl ⟨by rfl, fun X hSw => by (obtain ⟨_, q0, q1, q2, q3, q4, q5, q6⟩ := hSw; simp [execOp, Act.eval, build_placed, Result.andThen])⟩) trivial (HS _ (World.grownBy_refl' _ _)) ?_
  simp only [Act.put, List.getElem_toArray, List.getElem_cons_zero, List.getElem_cons_succ, List.setIfInBounds_toArray, List.set_cons_zero, List.set_cons_succ]
  refine anyT_one (i := 17) (by kernel_rfl) rfl (fun K hK => ?_)
  have hbr := build_row nx s t d p n c w1.drew
  obtain ⟨W3, hW3⟩ : ∃ W3, W3 = (w1.alloc (.cells #[.int .i64 nx, .string s, .int .i64 t, .int .i64 d, .slice p n c] 102)).drew := ⟨_, rfl⟩
  have g3 : w1.drew.grownBy W3 v0.ownBlock := by rw [hW3]; exact World.grownBy_alloc w1.drew _ _
  have g13 : w1.grownBy W3 v0.ownBlock := (drew_grown w1 _).trans g3
  have C3 : Cells W3 w1.heap.size #[.int .i64 nx, .string s, .int .i64 t, .int .i64 d, .slice p n c] := by rw [hW3]; exact Cells.made w1.drew _ _
  have r3 : W3.ownsRow lo 102 5 v0 (ofR s L).length (flatP (ofR s L)) := by rw [hW3]; exact hrow0.alloc _
  have z3 : w1.heap.size < W3.heap.size := C3.1
  replace hW3 : Hid ((w1.alloc (.cells #[.int .i64 nx, .string s, .int .i64 t, .int .i64 d, .slice p n c] 102)).drew = W3) := hW3.symm
  go_simp
  rw [hW3.out]
  refine hK.out _ _ trivial (fun _ => HS _ g3) ?_
  clear hK K hbr hW3
  refine anyT_one (i := 18) (by kernel_rfl) rfl (fun K hK => ?_)
  refine step_append_lies _ rfl _ _ 76 rfl lo 102 i0 _ 5 64 Try.underlying76 hi hz0 hz1 hz2 rfl (by decide) v0 (ofR s L).length (flatP (ofR s L)) rfl r3 ⟨w1.heap.size, 0, none⟩ 1 1 (PIt.vals ⟨nx, ⟨s, t, d, p, n, c, xs⟩⟩) rfl rfl (fun j u hj => ?news) (fun u hu => flatP_one [⟨nx, ⟨s, t, d, p, n, c, xs⟩⟩] u (by simpa [flatP] using hu)) (by decide) (by unfold maxLen; omega) (by omega) (by omega) W3.heap.size rfl ?_
  case news =>
    rw [Addr.add_lit, Nat.zero_add, (C3.2 j).1]
    simpa [PIt.vals, ItA.vals] using hj
  intro g4 c4 W4 r4 hg4 hl4 hgl4
  have gg : w1.drew.grownBy W4 v0.ownBlock := g3.trans hg4
  have g14 : w1.grownBy W4 v0.ownBlock := g13.trans hg4
  refine hK.out _ _ trivial (fun _ => HS _ gg) ?_
  clear hK K
  simp only [Act.put, List.getElem_toArray, List.getElem_cons_zero, List.getElem_cons_succ, List.setIfInBounds_toArray, List.set_cons_zero, List.set_cons_succ]
  refine anyT_one (i := 19) (by kernel_rfl) rfl (fun K hK => ?_)
  obtain ⟨W5, hst, hM5, ht5⟩ := (hR1.map.kept g14 hv0B).store s hs (by omega) (.slice (some ⟨g4, 0, none⟩) ((ofR s L).length + 1) c4)
  have hloc : ((m s).getD (.slice none 0 0)).ownBlock = (Value.slice (some ⟨g4, 0, none⟩) ((ofR s L).length + 1) c4).ownBlock ∨ ∃ g, (Value.slice (some ⟨g4, 0, none⟩) ((ofR s L).length + 1) c4).ownBlock = some g ∧ w1.heap.size ≤ g := by
    rw [← hv0.out]
    rcases hl4 with e | e
    · exact .inl e
    · exact .inr ⟨g4, rfl, by omega⟩
  have hR5 := hR1.add (z := ⟨nx, ⟨s, t, d, p, n, c, xs⟩⟩) (v' := .slice (some ⟨g4, 0, none⟩) ((ofR s L).length + 1) c4) (by rw [← hv0.out]; exact g14) hC1.1 r4 hloc hM5 ht5.grown
  have hC5 := (hC1.grown g14 hv0S).grown ht5.grown (fun e => by simp only [Option.some.injEq] at e; exact cells_not_map hR1.map hC1 (by simp) e.symm)
  have hk5 : Below lo w W5 := (hk1.grown g14 hb1 (fun k hk => (hrow0.lt k hk).1)).grown ht5.grown (Nat.le_trans hb1 g14.size) (fun k hk => by cases hk; exact hR1.loB)
  clear HS hR1 hC1 CX C3 r3 r4 hM5 g3 g13 gg g14 hg4 hloc hl4 ht5 hrow0 hk1 hb1
  go_simp
  refine hK.out _ _ trivial (fun e => by cases e) ?_
  clear hK K
  refine anyT_done (by kernel_rfl) ?_ _
  refine NoPanic.normal ?_
  have e1 : W5.cell? ⟨S, 1, none⟩ = some (.int .i64 nx) := (hC5.2 1).1
  have f1 := (hC5.2 1).2
  have hC6 := hC5.set 1 (by simp) (.int .i64 (nx + 1))
  have hR6 := hR5.kept (set_grown W5 S 1 (.int .i64 (nx + 1))) (fun e => by simp only [Option.some.injEq] at e; exact cells_not_map hR5.map hC5 (by simp) e) (fun y u hu => hR5.off y u hu)
  have hk6 := hk5.setCell (p := ⟨S, 1, none⟩) hlo (.int .i64 (nx + 1))
  clear hR5 hk5
  go_wp2_with (fail)
  first | go_end0 | (simp only [Exit.inBlock, Exit.then]; refine bodyPost_ret (results_none rfl _ _ _) rfl ?_) | refine bodyPost_ret (results_none rfl _ _ _) rfl ?_
  exact ⟨rfl, ⟨B, nn + 1, _, hC6, hlo, by omega, hR6⟩, hk6⟩

end Go.Proofs.Ytkdbcplcpcdnbaa

namespace Go.Proofs.Ytkdbcplcpcdnbaa
open Go.RowKit
set_option maxRecDepth 100000

theorem cells_low {w w' : World} {g B : Nat} {A : Array Value} (h : Cells w g A) (b : Below B w w') (hg : g < B) : Cells w' g A :=
  ⟨Nat.lt_of_lt_of_le h.1 b.size, fun i => ⟨(b.cell hg).trans (h.2 i).1, (b.frozen hg).trans (h.2 i).2⟩⟩

/-- An item in a variable of its own whose bytes are told anew, and that is then stored into another: what each step meets. -/
theorem itemBox {w1 : World} {B R : Nat} {s : ByteArray} {t d : Int} {p p1 : Option Addr} {n c n1 c1 : Nat} (C2 : Cells w1 B #[.string s, .int .i64 t, .int .i64 d, .slice p n c]) (C1 : Cells w1 R #[.string { data := #[] }, .int .i64 0, .int .i64 0, .slice none 0 0]) (hne : R ≠ B) :
    ∃ X1 X3, Hid (w1.setCell ⟨B, 3, none⟩ (.slice p1 n1 c1) = X1) ∧ Hid ((((X1.setCell ⟨R, 0, none⟩ (.string s)).setCell ⟨R, 1, none⟩ (.int .i64 t)).setCell ⟨R, 2, none⟩ (.int .i64 d)).setCell ⟨R, 3, none⟩ (.slice p1 n1 c1) = X3) ∧
      w1.cell? ⟨B, 3, none⟩ = some (.slice p n c) ∧ w1.frozen? ⟨B, 3, none⟩ = false ∧
      X1.cell? ⟨B, 0, none⟩ = some (.string s) ∧ X1.cell? ⟨B, 1, none⟩ = some (.int .i64 t) ∧ X1.cell? ⟨B, 2, none⟩ = some (.int .i64 d) ∧ X1.cell? ⟨B, 3, none⟩ = some (.slice p1 n1 c1) ∧
      X1.cell? ⟨R, 0, none⟩ = some (.string { data := #[] }) ∧ X1.frozen? ⟨R, 0, none⟩ = false ∧
      (X1.setCell ⟨R, 0, none⟩ (.string s)).cell? ⟨R, 1, none⟩ = some (.int .i64 0) ∧ (X1.setCell ⟨R, 0, none⟩ (.string s)).frozen? ⟨R, 1, none⟩ = false ∧
      ((X1.setCell ⟨R, 0, none⟩ (.string s)).setCell ⟨R, 1, none⟩ (.int .i64 t)).cell? ⟨R, 2, none⟩ = some (.int .i64 0) ∧ ((X1.setCell ⟨R, 0, none⟩ (.string s)).setCell ⟨R, 1, none⟩ (.int .i64 t)).frozen? ⟨R, 2, none⟩ = false ∧
      (((X1.setCell ⟨R, 0, none⟩ (.string s)).setCell ⟨R, 1, none⟩ (.int .i64 t)).setCell ⟨R, 2, none⟩ (.int .i64 d)).cell? ⟨R, 3, none⟩ = some (.slice none 0 0) ∧ (((X1.setCell ⟨R, 0, none⟩ (.string s)).setCell ⟨R, 1, none⟩ (.int .i64 t)).setCell ⟨R, 2, none⟩ (.int .i64 d)).frozen? ⟨R, 3, none⟩ = false ∧
      X3.cell? ⟨R, 0, none⟩ = some (.string s) ∧ X3.cell? ⟨R, 1, none⟩ = some (.int .i64 t) ∧ X3.cell? ⟨R, 2, none⟩ = some (.int .i64 d) ∧ X3.cell? ⟨R, 3, none⟩ = some (.slice p1 n1 c1) ∧
      Hid (X3.heap.size = w1.heap.size) ∧ Hid (∀ a w0, Below a w0 w1 → a ≤ B → a ≤ R → Below a w0 X3) ∧ Hid (∀ e lo hi v k xs, Own e w1 lo hi v k xs → B < lo → R < lo → Own e X3 lo hi v k xs) := by
  have D0 := C1.other (a := ⟨B, 3, none⟩) (.slice p1 n1 c1) hne
  have E0 := C2.set 3 (by simp) (.slice p1 n1 c1)
  have D1 := D0.set 0 (by simp) (.string s)
  have D2 := D1.set 1 (by simp) (.int .i64 t)
  have D3 := D2.set 2 (by simp) (.int .i64 d)
  have D4 := D3.set 3 (by simp) (.slice p1 n1 c1)
  refine ⟨_, _, rfl, rfl, (C2.2 3).1, (C2.2 3).2, (E0.2 0).1, (E0.2 1).1, (E0.2 2).1, (E0.2 3).1, (D0.2 0).1, (D0.2 0).2, (D1.2 1).1, (D1.2 1).2, (D2.2 2).1, (D2.2 2).2, (D3.2 3).1, (D3.2 3).2, (D4.2 0).1, (D4.2 1).1, (D4.2 2).1, (D4.2 3).1, by simp [Hid], fun a w0 b h1 h2 => ?_, fun e lo hi v k xs o h1 h2 => ?_⟩
  · exact ((((b.setCell (p := ⟨B, 3, none⟩) h1 _).setCell (p := ⟨R, 0, none⟩) h2 _).setCell (p := ⟨R, 1, none⟩) h2 _).setCell (p := ⟨R, 2, none⟩) h2 _).setCell (p := ⟨R, 3, none⟩) h2 _
  · exact ((((o.set_below (a := ⟨B, 3, none⟩) h1 _).set_below (a := ⟨R, 0, none⟩) h2 _).set_below (a := ⟨R, 1, none⟩) h2 _).set_below (a := ⟨R, 2, none⟩) h2 _).set_below (a := ⟨R, 3, none⟩) h2 _

set_option maxHeartbeats 2000000 in
theorem l13Item_own (s : ByteArray) (t d : Int) (p : Option Addr) (n c : Nat) (xs : List Int) (w : World) (hn : n ≤ 1048576) (hx : xs.length = n) (h : BytesIn w p n xs) :
    Calls Try.prog 47 #[.agg #[.string s, .int .i64 t, .int .i64 d, .slice p n c]] w fun z w' => ∃ p' c', z = .returned (.agg #[.string s, .int .i64 t, .int .i64 d, .slice p' n c']) ∧
      Own 5 w' w.heap.size w'.heap.size (.slice p' n c') n xs ∧ Below w.heap.size w w' := by
  obtain ⟨i0, hi, hz0, hz1, hz2⟩ := info_parts infoByte
  have kA : ∀ o1 o2 o3, Below w.heap.size w (((w.alloc o1).alloc o2).alloc o3) := fun o1 o2 o3 => made_below _ _ (made_below _ _ (made_below _ _ (Below.refl _ _)))
  obtain ⟨W, hW⟩ : ∃ W, W = ((w.alloc (.cells #[.string s, .int .i64 t, .int .i64 d, .slice p n c] 26)).alloc (.cells #[.string { data := #[] }, .int .i64 0, .int .i64 0, .slice none 0 0] 26)).alloc (.cells #[] 5) := ⟨_, rfl⟩
  have kW : Below w.heap.size w W := by rw [hW]; exact kA _ _ _
  have zW : W.heap.size = w.heap.size + 3 := by rw [hW]; simp
  have C2 : Cells W w.heap.size #[.string s, .int .i64 t, .int .i64 d, .slice p n c] := by rw [hW]; exact (Cells.made w _ _).on (made_below _ _ (made_below _ _ (Below.refl _ _)))
  have C1 : Cells W (w.heap.size + 1) #[.string { data := #[] }, .int .i64 0, .int .i64 0, .slice none 0 0] := by
    have := (Cells.made (w.alloc (.cells #[.string s, .int .i64 t, .int .i64 d, .slice p n c] 26)) #[.string { data := #[] }, .int .i64 0, .int .i64 0, .slice none 0 0] 26).on (made_below _ (.cells #[] 5) (Below.refl _ _))
    rw [hW]
    rw [show (w.alloc (.cells #[.string s, .int .i64 t, .int .i64 d, .slice p n c] 26)).heap.size = w.heap.size + 1 by simp] at this
    exact this
  have hE : W.ownsRow (w.heap.size + 1 + 1) 5 1 (.slice (some ⟨w.heap.size + 1 + 1, 0, none⟩) 0 0) 0 (([] : List Int).map (Value.int .u8)) := by
    refine ⟨rfl, .inr ⟨w.heap.size + 1 + 1, 0, #[], rfl, Nat.le_refl _, ?_, Nat.le_refl _, Nat.zero_le _, rfl, rfl⟩⟩
    have := heap_made ((w.alloc (.cells #[.string s, .int .i64 t, .int .i64 d, .slice p n c] 26)).alloc (.cells #[.string { data := #[] }, .int .i64 0, .int .i64 0, .slice none 0 0] 26)) (.cells #[] 5)
    rw [hW]
    simpa using this
  have hin := in_below h kW
  have l3 : W.cell? ⟨w.heap.size, 3, none⟩ = some (.slice p n c) := (C2.2 3).1
  replace hW : Hid (((w.alloc (.cells #[.string s, .int .i64 t, .int .i64 d, .slice p n c] 26)).alloc (.cells #[.string { data := #[] }, .int .i64 0, .int .i64 0, .slice none 0 0] 26)).alloc (.cells #[] 5) = W) := hW.symm
  clear kA
  go_enter Try.func47, Try.ntmps47
  go_wp2_with (first | rw [hW.out] | (at_builtin; refine list_spreadA hi hz0 hz1 hz2 _ _ 22 Try.underlying22 hE hin hx (by omega) (by omega) (by omega) (by rfl) (by rfl) (by rfl) (by rfl) ?_; intro p1 c1 w1 o1 b1; rw [List.nil_append, Nat.zero_add] at o1; rw [Nat.zero_add]; have hb1 : Below (w.heap.size + 1 + 1) W w1 := b1; have D2 : Cells w1 w.heap.size #[.string s, .int .i64 t, .int .i64 d, .slice p n c] := cells_low C2 hb1 (by omega); have D1 := cells_low C1 hb1 (by omega); obtain ⟨X1, X3, hX1, hX3, a1, a2, a3, a4, a5, a6, a7, a8, a9, a10, a11, a12, a13, a14, a15, a16, a17, a18, hsz, hbX, hoX⟩ := itemBox (p1 := p1) (n1 := n) (c1 := c1) D2 D1 (by omega)) | rw [hX1.out] | rw [hX3.out])
  refine bodyPost_ret (v := .agg #[.string s, .int .i64 t, .int .i64 d, .slice p1 n c1]) ?_ rfl ⟨_, _, rfl, ?_, ?_⟩
  · simp only [results, Try.f47]
    go_simp
  · have e2 := hsz.out
    have o2 := hoX.out _ _ _ _ _ _ (Own.of o1) (by omega) (by omega)
    rw [e2]
    exact ⟨owns_mono o2.1 (by omega), o2.2⟩
  · exact hbX.out _ _ (kW.trans (hb1.mono (by omega))) (Nat.le_refl _) (by omega)

/-- One more item behind a row of one's own. -/
theorem OwnItems.push {w w' : World} {lo n g cap : Nat} {v : Value} {its : List ItA} {x : ItA} (h : OwnItems w lo w.heap.size v n its) (ho : Own 5 w lo w.heap.size x.slice x.n x.xs) (hxv : x.slice.ownBlock = none ∨ x.slice.ownBlock ≠ v.ownBlock)
    (hap : ∀ y ∈ its, y.slice.ownBlock = none ∨ y.slice.ownBlock ≠ x.slice.ownBlock) (hrow : w'.ownsRow lo 26 4 (.slice (some ⟨g, 0, none⟩) (n + 1) cap) (n + 1) (flatI its ++ x.vals)) (hg : w.grownBy w' v.ownBlock)
    (hloc : v.ownBlock = some g ∨ w.heap.size ≤ g) : OwnItems w' lo w'.heap.size (.slice (some ⟨g, 0, none⟩) (n + 1) cap) (n + 1) (its ++ [x]) := by
  have hz := hg.size
  have far : ∀ y : ItA, Own 5 w lo w.heap.size y.slice y.n y.xs → (y.slice.ownBlock = none ∨ y.slice.ownBlock ≠ v.ownBlock) → y.slice.ownBlock = none ∨ y.slice.ownBlock ≠ some g := fun y oy hy => by
    rcases hloc with e | e
    · rw [← e]; exact hy
    · rcases hB : y.slice.ownBlock with _ | j
      · exact .inl rfl
      · right
        have := oy.2 j hB
        simp only [ne_eq, Option.some.injEq]
        omega
  refine ⟨by simp [h.len], by rw [flatI_append]; simpa [flatI] using hrow, fun k hk => (hrow.lt k hk).2, fun y hy => ?_, fun y hy => ?_, ?_⟩
  · rcases List.mem_append.1 hy with hy | hy
    · exact Own.wide (w := w') (lo := lo) (hi := w.heap.size) ⟨(h.bytes y hy).1.kept hg (h.apart y hy), (h.bytes y hy).2⟩ (Nat.le_refl _) hz
    · simp only [List.mem_singleton] at hy
      subst hy
      exact Own.wide (w := w') (lo := lo) (hi := w.heap.size) ⟨ho.1.kept hg hxv, ho.2⟩ (Nat.le_refl _) hz
  · rcases List.mem_append.1 hy with hy | hy
    · exact far y (h.bytes y hy) (h.apart y hy)
    · simp only [List.mem_singleton] at hy
      subst hy
      exact far y ho hxv
  · rw [List.pairwise_append]
    refine ⟨h.pair, by simp, fun y hy z hz => ?_⟩
    simp only [List.mem_singleton] at hz
    subst hz
    exact hap y hy

theorem build_item (s : ByteArray) (t d : Int) (p : Option Addr) (n c : Nat) (X : World) :
    (Instr.buildSlice 24 1 #[(0, .agg #[.string s, .int .i64 t, .int .i64 d, .slice p n c])]).run Try.prog X = .ok (.slice (some ⟨X.heap.size, 0, none⟩) 1 1) (X.alloc (.cells #[.string s, .int .i64 t, .int .i64 d, .slice p n c] 26)) := by kernel_rfl
theorem vals_one (x : ItA) : ∀ v ∈ x.vals, v.oneCell' = true := by
  intro v hv
  simp only [ItA.vals, List.mem_cons, List.not_mem_nil, or_false] at hv
  rcases hv with rfl | rfl | rfl | rfl <;> rfl

/-- 'append(out, x)' of an item of one's own: w is the world ahead of the one-element slice. -/
theorem list_pushItem {ops : Array Oper} {rest : List Oper} {o : Oper} {a : Act} {Q : Exit → Act → World → Prop} {w : World} {lo n : Nat} {v : Value} {its : List ItA} (x : ItA) (h : OwnItems w lo w.heap.size v n its) (ho : Own 5 w lo w.heap.size x.slice x.n x.xs)
    (hxv : x.slice.ownBlock = none ∨ x.slice.ownBlock ≠ v.ownBlock) (hap : ∀ y ∈ its, y.slice.ownBlock = none ∨ y.slice.ownBlock ≠ x.slice.ownBlock) (hn : n ≤ 1048577) (hlo : lo ≤ w.heap.size)
    (s y : Operand) (hgd : o.guard = none) (hop : o.op = .call { callee := .builtin .append, args := #[s, y], argTypes := #[24, 24] }) (hs : a.eval s = v) (hy : a.eval y = .slice (some ⟨w.heap.size, 0, none⟩) 1 1)
    (K : ∀ g cap w', OwnItems w' lo w'.heap.size (.slice (some ⟨g, 0, none⟩) (n + 1) cap) (n + 1) (its ++ [x]) → Below lo w w' → wpList Try.prog ops Q rest (a.put o.dst (.slice (some ⟨g, 0, none⟩) (n + 1) cap)) w') :
    wpList Try.prog ops Q (o :: rest) a (w.alloc (.cells x.vals.toArray 26)) := by
  obtain ⟨i0, hi, hz0, hz1, hz2⟩ := info_parts infoItem
  have ha : w.grownBy (w.alloc (.cells x.vals.toArray 26)) v.ownBlock := World.grownBy_alloc w _ _
  have C := Cells.made w x.vals.toArray 26
  refine wpList_append_lies _ hgd s y 24 hop lo 26 i0 _ 4 56 Try.underlying24 hi hz0 hz1 hz2 rfl (by decide) v n (flatI its) hs (h.row.alloc _) ⟨w.heap.size, 0, none⟩ 1 1 x.vals hy rfl (fun j u hj => ?_) (vals_one x) (by decide) (by unfold maxLen; omega) (by omega) (by simp; omega) _ rfl ?_
  · rw [Addr.add_lit, Nat.zero_add, (C.2 j).1]
    simpa using hj
  · intro g cap w' h1 h2 h3 _
    have hg := ha.trans h2
    refine K g cap w' (h.push ho hxv hap h1 hg ?_) ((Below.refl _ _).grown hg hlo fun k hk => (h.row.lt k hk).1)
    rcases h3 with e | e
    · exact .inl e
    · exact .inr (by rw [e]; simp)

/-- A fresh item's bytes are apart from all that lies below them. -/
theorem fresh_apart {w w' : World} {lo n : Nat} {v : Value} {its : List ItA} (h : OwnItems w lo w.heap.size v n its) {x : ItA} (hx : Own 5 w' w.heap.size w'.heap.size x.slice x.n x.xs) :
    (x.slice.ownBlock = none ∨ x.slice.ownBlock ≠ v.ownBlock) ∧ ∀ y ∈ its, y.slice.ownBlock = none ∨ y.slice.ownBlock ≠ x.slice.ownBlock := by
  refine ⟨?_, fun y hy => ?_⟩
  · rcases hB : x.slice.ownBlock with _ | j
    · exact .inl rfl
    · right
      intro e
      have h1 := (hx.1.lt j hB).1
      have h2 := h.top j e.symm
      omega
  · rcases hB : y.slice.ownBlock with _ | j
    · exact .inl rfl
    · right
      intro e
      have h1 := (hx.1.lt j e.symm).1
      have h2 := (h.bytes y hy).2 j hB
      omega
/-- No item yet. -/
theorem OwnItems.none13 (w : World) (lo : Nat) (hlo : lo ≤ w.heap.size) : OwnItems (w.alloc (.cells #[] 26)) lo (w.alloc (.cells #[] 26)).heap.size (.slice (some ⟨w.heap.size, 0, none⟩) 0 0) 0 [] := by
  refine ⟨rfl, ⟨rfl, .inr ⟨w.heap.size, 0, #[], rfl, hlo, heap_made w _, Nat.le_refl _, Nat.zero_le _, rfl, rfl⟩⟩, fun k hk => ?_, fun x hx => by simp at hx, fun x hx => by simp at hx, List.Pairwise.nil⟩
  simp only [Value.ownBlock, Option.some.injEq] at hk
  subst hk
  simp

set_option maxHeartbeats 4000000 in
theorem l13Queue_own (p : Option Addr) (n c : Nat) (its : List ItA) (w : World) (hn : n ≤ 1048576) (hl : its.length = n) (h : ItemsIn w p n its) (li : ∀ x ∈ its, x.Lies w) (fit : ∀ x ∈ its, x.n ≤ 1048576) :
    Calls Try.prog 48 #[.slice p n c] w fun e w' => ∃ g c' its', e = .returned (.slice (some ⟨g, 0, none⟩) n c') ∧ OwnItems w' w.heap.size w'.heap.size (.slice (some ⟨g, 0, none⟩) n c') n its' ∧ Hid (its'.map ItA.con = its.map ItA.con) ∧ Below w.heap.size w w' := by
  have hN := OwnItems.none13 w w.heap.size (Nat.le_refl _)
  obtain ⟨w1, hw1⟩ : ∃ w1, w1 = w.alloc (.cells #[] 26) := ⟨_, rfl⟩
  have b1 : Below w.heap.size w w1 := by rw [hw1]; exact made_below _ _ (Below.refl _ _)
  rw [← hw1] at hN
  replace hw1 : Hid (w.alloc (.cells #[] 26) = w1) := hw1.symm
  go_enter Try.func48, Try.ntmps48
  go_wp2_with (rw [hw1.out])
  clear hw1
  go_loopw [3, 4] (fun a i wr => ∃ k : Nat, k ≤ n ∧ i = .int .i64 k ∧ (∃ (done : List ItA) (g cap : Nat), a = .slice (some ⟨g, 0, none⟩) k cap ∧ Hid (done.map ItA.con = (its.take k).map ItA.con) ∧ OwnItems wr w.heap.size wr.heap.size (.slice (some ⟨g, 0, none⟩) k cap) k done) ∧ Below w.heap.size w wr) (fun _ i _ => n - (intOf i).toNat)
  case atStart => exact ⟨0, Nat.zero_le _, rfl, ⟨[], w.heap.size, 0, rfl, rfl, hN⟩, b1⟩
  case round =>
    clear hN b1
    obtain ⟨k, hk, rfl, ⟨done, g, cap, rfl, hdc, hO⟩, hbel⟩ := hrel
    by_cases hlt : k < n
    · obtain ⟨b, o, rfl, hc⟩ := itemsIn_on h hbel (by omega)
      obtain ⟨x, hx⟩ : ∃ x, its.getD k default = x := ⟨_, rfl⟩
      obtain ⟨l0, l1, l2, l3⟩ := ItemsIn.at hc hlt hx
      have hxm : x ∈ its := hx ▸ getD_mem (by omega)
      have lx := (li x hxm).on hbel
      have hnx := fit x hxm
      replace hdc : Hid (done.map ItA.con ++ [x.con] = (its.take (k + 1)).map ItA.con) := by
        rw [Hid, take_getD (by omega), hx, List.map_append, hdc.out]; rfl
      obtain ⟨s, t, d, xp, xn, xc, xs⟩ := x
      dsimp only at l0 l1 l2 l3 hnx
      obtain ⟨_, lx1, lx2⟩ := lx
      dsimp only at lx1 lx2
      clear hx hxm hc h li fit
      go_wp2_with (fail)
      refine (l13Item_own s t d xp xn xc xs _ hnx lx1 lx2).mono ?_
      rintro z w2 ⟨p2, c2, rfl, r2, b2⟩
      have hO2 := (hO.on b2).wide (lo' := w.heap.size) (hi' := w2.heap.size) (Nat.le_refl _) b2.size
      have hap := fresh_apart hO (x := ⟨s, t, d, p2, xn, c2, xs⟩) r2
      have hbel2 := below_on hbel b2
      have hz2 := hbel2.size
      have hnew : Hid ((done ++ [(⟨s, t, d, p2, xn, c2, xs⟩ : ItA)]).map ItA.con = (its.take (k + 1)).map ItA.con) := by
        rw [Hid, List.map_append, ← hdc.out]; rfl
      have r2' : Own 5 w2 w.heap.size w2.heap.size (ItA.slice ⟨s, t, d, p2, xn, c2, xs⟩) xn xs := r2.wide hbel.size (Nat.le_refl _)
      clear hO b2 r2 hdc
      go_wp2_with (at_builtin; refine list_pushItem (w := w2) ⟨s, t, d, p2, xn, c2, xs⟩ hO2 r2' hap.1 hap.2 (by omega) hz2 _ _ rfl rfl rfl rfl ?_; intro g3 c3 w3 hO3 hb3)
      go_roundw
      case rel => exact ⟨k + 1, by omega, by go_num, ⟨_, g3, c3, rfl, hnew, hO3⟩, hbel2.trans hb3⟩
      case measure => simp [intOf]; omega
    · have hkn : k = n := by omega
      subst hkn
      have hall : Hid (done.map ItA.con = its.map ItA.con) := by rw [Hid, hdc.out, ← hl, List.take_length]
      clear hdc
      go_wp2_with (fail)
      go_ret
      exact ⟨_, _, done, rfl, hO, hall, hbel⟩

end Go.Proofs.Ytkdbcplcpcdnbaa

namespace Go.Proofs.Ytkdbcplcpcdnbaa
open Go.RowKit
set_option maxRecDepth 100000

theorem bit_any (b : Bool) (X : World) : Calls Try.prog 54 #[.bool b] X fun e w' => e = .returned (.int .i64 (if b then 1 else 0)) ∧ w' = X := by
  cases b
  · go_enter Try.func54, Try.ntmps54
    go_wp2_with (fail)
    go_ret
    exact ⟨rfl, rfl⟩
  · go_enter Try.func54, Try.ntmps54
    go_wp2_with (fail)
    go_ret
    exact ⟨rfl, rfl⟩

/-- How many are of that route. -/
def cntI (s : ByteArray) (its : List ItA) : Nat := its.countP (fun x => decide (x.s = s))

theorem cntI_step (s : ByteArray) (its : List ItA) (k : Nat) (hk : k < its.length) : cntI s (its.take (k + 1)) = cntI s (its.take k) + if (its.getD k default).s = s then 1 else 0 := by
  unfold cntI
  have e : its.take (k + 1) = its.take k ++ [its.getD k default] := by
    rw [List.take_add_one, List.getElem?_eq_getElem hk]
    simp [List.getD_eq_getElem?_getD, List.getElem?_eq_getElem hk]
  rw [e, List.countP_append, List.countP_singleton]
  by_cases h : (its.getD k default).s = s <;> simp
theorem cntI_le (s : ByteArray) (its : List ItA) : cntI s its ≤ its.length := List.countP_le_length

theorem str_eq_any (a b : ByteArray) : (a.toList == b.toList) = decide (a = b) := by
  by_cases h : a = b
  · subst h; simp
  · rw [str_ne h, decide_eq_false h]

set_option maxHeartbeats 2000000 in
theorem specOf_any (p : Option Addr) (n c : Nat) (its : List ItA) (s : ByteArray) (w : World) (hn : n ≤ 1048576) (hl : its.length = n) (h : ItemsIn w p n its) :
    Calls Try.prog 22 #[.slice p n c, .string s] w fun e w' => e = .returned (.int .i64 (cntI s its)) ∧ w' = w := by
  go_enter Try.func22, Try.ntmps22
  go_wp2_with (fail)
  go_loopw [5, 6] (fun a i wr => ∃ k : Nat, k ≤ n ∧ i = .int .i64 k ∧ (∃ m : Nat, a = .int .i64 m ∧ Hid (m = cntI s (its.take k)) ∧ m ≤ 1048576) ∧ wr = w) (fun _ i _ => n - (intOf i).toNat)
  case atStart => exact ⟨0, Nat.zero_le _, rfl, ⟨0, rfl, rfl, by omega⟩, rfl⟩
  case round =>
    obtain ⟨k, hk, rfl, ⟨m, rfl, hm, hm1⟩, rfl⟩ := hrel
    by_cases hlt : k < n
    · obtain ⟨b, o, rfl, hc⟩ := h (by omega)
      have h1 : wr.cell? ⟨b, o + k * 4, none⟩ = some (.string (its.getD k default).s) := hc k 0 _ hlt rfl
      have hst := cntI_step s its k (by omega)
      have hle := cntI_le s (its.take (k + 1))
      generalize (its.getD k default).s = u at h1 hst
      clear hc h
      have e1 := str_eq_any u s
      go_wp2_with (fail)
      refine (bit_any _ _).mono ?_
      rintro z w1 ⟨rfl, rfl⟩
      obtain ⟨g, hg⟩ : ∃ g : Nat, g = if u = s then 1 else 0 := ⟨_, rfl⟩
      have eg : (if decide (u = s) = true then (1 : Int) else 0) = (g : Int) := by
        rw [hg]
        by_cases hh : u = s <;> simp [hh]
      rw [eg]
      have hg1 : g ≤ 1 := by rw [hg]; split <;> omega
      have hnew : Hid (m + g = cntI s (its.take (k + 1))) := by rw [Hid, hst, ← hg, ← hm.out]
      have hmg : m + g ≤ 1048576 := by
        have := hnew.out
        have := List.length_take_le (k + 1) its
        rw [List.length_take] at hle
        omega
      clear hg eg e1 hst hle hm
      go_wp2_with (fail)
      go_roundw
      case rel => exact ⟨k + 1, by omega, by go_num, ⟨m + g, by go_num, hnew, hmg⟩, trivial⟩
      case measure => simp [intOf]; omega
    · have hkn : k = n := by omega
      subst hkn
      have hall : Hid (m = cntI s its) := by rw [Hid, hm.out, ← hl, List.take_length]
      clear hm
      go_wp2_with (fail)
      go_ret
      exact ⟨by rw [← hall.out]; rfl, rfl⟩

end Go.Proofs.Ytkdbcplcpcdnbaa
