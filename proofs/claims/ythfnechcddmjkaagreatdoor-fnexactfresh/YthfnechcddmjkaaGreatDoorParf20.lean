/-
  What both sides' Fresh answers at any world: a key of its seed and its count. Conditions: bytes all; for the program the table of the rounds' numbers is as its text says.
-/
import Derived.Test.YthfnechcddmjkaaGreatDoorParf16
import Derived.Test.YthfnechcddmjkaaGreatDoorParf18
import Derived.Test.YthfnechcddmjkaaGreatDoorParf17
import Derived.Test.YthfnechcddmjkaaGreatDoorParf03
import Derived.Test.YthfnechcddmjkaaGreatDoorParf19
import Derived.Deep.RegionLawGrows
namespace Go.Proofs.YthfnechcddmjkaaGreatDoor
open Go.RowKit
set_option maxRecDepth 100000

def freI : List Int := [102, 114, 101, 115, 104]
def freN (n : Nat) (cn : Int) : Nat := derN 0 n (5 + fitN cn 2) 32
def freL (xs : List Int) (cn : Int) : List Int := derL [] xs (freI ++ (fitL cn 2).reverse) 32
theorem freN_le (n : Nat) (cn : Int) : freN n cn ≤ 8160 := derN_le _ _ _ _
theorem freI_byte (cn : Int) : ∀ x ∈ freI ++ (fitL cn 2).reverse, 0 ≤ x ∧ x < 256 := fun x hx => by
  rcases List.mem_append.1 hx with h | h
  · simp only [freI, List.mem_cons, List.not_mem_nil, or_false] at h
    omega
  · exact fitE_byte cn x (List.mem_reverse.1 h)
theorem anyT_pick {P : Program} {ops : Array Oper} {Q : Exit → Act → World → Prop} {T S : World → Prop} {m : Nat} {i j : Nat} {o o' : Oper} {fuel : Nat} {listed : Array Bool} {a : Act} {w : World} (hr : Region.ready .any ops listed = [i, j]) (ho : ops[i]? = some o) (ho' : ops[j]? = some o')
    (h : ∀ K' : Act → World → Prop, Shut (∀ a w, T w → ((listed.setIfInBounds i true).getD m true = false → S w) → AnyT P ops Q T S m fuel (listed.setIfInBounds i true) a w → K' a w) → if Region.wanted o (yielded ops a.tmps) = true then Oper.wp P o a w K' Q else K' (a.put o.dst undef) w)
    (h' : ∀ K' : Act → World → Prop, Shut (∀ a w, T w → ((listed.setIfInBounds j true).getD m true = false → S w) → AnyT P ops Q T S m fuel (listed.setIfInBounds j true) a w → K' a w) → if Region.wanted o' (yielded ops a.tmps) = true then Oper.wp P o' a w K' Q else K' (a.put o'.dst undef) w) :
    AnyT P ops Q T S m (fuel + 1) listed a w := by
  refine ⟨fun e => absurd (hr.symm.trans e) (by simp), fun q hq => ?_⟩
  rw [hr, List.mem_cons, List.mem_singleton] at hq
  rcases hq with rfl | rfl
  · exact wpOp_step ho (fun K' hK => h K' (fun a w h0 h1 h2 => hK a w ⟨h0, h1, h2⟩))
  · exact wpOp_step ho' (fun K' hK => h' K' (fun a w h0 h1 h2 => hK a w ⟨h0, h1, h2⟩))
def LitAt (w : World) (B : Nat) : Prop := w.heap[B]? = some (.cells #[.int .u8 102, .int .u8 114, .int .u8 101, .int .u8 115, .int .u8 104] 5 (0, 0))
theorem LitAt.lt {w : World} {B : Nat} (h : LitAt w B) : B < w.heap.size := (Array.getElem?_eq_some_iff.1 h).1
theorem LitAt.on {w w' : World} {B : Nat} (h : LitAt w B) (b : Below w.heap.size w w') : LitAt w' B := (b.block B h.lt).trans h
theorem LitAt.cell {w : World} {B : Nat} (h : LitAt w B) (i : Nat) : w.cell? ⟨B, i, none⟩ = (#[.int .u8 102, .int .u8 114, .int .u8 101, .int .u8 115, .int .u8 104] : Array Value)[i]? := by
  simp only [World.cell?]
  rw [show w.heap[B]? = _ from h]
  rfl
theorem freeze_cell (w : World) (a b : Addr) (m : Nat) : (w.freeze a m).cell? b = w.cell? b := by
  unfold World.freeze
  by_cases hm : m = 0
  · rw [if_pos hm]
  · rw [if_neg hm]
    by_cases hab : a.block = b.block
    · simp only [World.cell?, Array.getElem?_modify, hab, if_true]
      generalize w.heap[b.block]? = q
      cases q with
      | none => rfl
      | some q => cases q <;> rfl
    · simp only [World.cell?, Array.getElem?_modify, hab, if_false]
theorem freeze_grown (w : World) (g k m : Nat) : w.grownBy (w.freeze ⟨g, k, none⟩ m) (some g) := by
  unfold World.freeze
  split
  · exact World.grownBy.refl _ _
  · exact ⟨rfl, rfl, rfl, by simp, fun q _ hne => by
      rw [Array.getElem?_modify, if_neg (fun e => hne (by rw [← e]))]⟩
theorem convert_lit (w : World) (B n c : Nat) (h : LitAt w B) : (convert 22 22 (.slice (some ⟨B, 0, none⟩) n c)).run Tryz.prog w = .ok (.slice (some ⟨B, 0, none⟩) n c) (w.freeze ⟨B, 5, none⟩ 1) := by
  have hsh : w.shape? B = some (5, 5) := by unfold World.shape?; rw [show w.heap[B]? = _ from h]; rfl
  simp [convert, run_underlying Tryz.underlying22, run_underlying Tryz.underlying5, markStringish, hsh]
theorem step_full {P : Program} {ops : Array Oper} {o : Oper} {a : Act} {K : Act → World → Prop} {Q : Exit → Act → World → Prop} {E : Prop} {i : TypeInfo} {w : World} {n m c : Nat} {q p : Option Addr} {xs ys : List Int}
    (hi : P.info? 5 = some i) (hz : i.zero = some (.int .u8 0)) (hsize : i.size = 1) (hby : i.bytes = 1) (s y : Operand) (t : TypeId) (ht : P.underlying t = some (.slice 5)) (hgd : o.guard = none) (ho : o.op = .call { callee := .builtin .append, args := #[s, y], argTypes := #[t, t] }) (hs : a.eval s = .slice q n n) (hy : a.eval y = .slice p m c)
    (hp : BytesIn w q n xs) (hx : xs.length = n) (hn0 : 0 < n) (hin : BytesIn w p m ys) (hl : ys.length = m) (hnm : n + m ≤ 1099511627)
    (h : ∀ p' cap w', BytesIn w' p' (n + m) (xs ++ ys) → Below w.heap.size w w' → K (a.put o.dst (.slice p' (n + m) cap)) w') : if Region.wanted o (yielded ops a.tmps) = true then Oper.wp P o a w K Q else E := by
  obtain ⟨b, of, rfl, hc⟩ := hp hn0
  rcases Nat.eq_zero_or_pos m with h0 | h0
  · subst h0
    obtain rfl : ys = [] := List.eq_nil_of_length_eq_zero hl
    have hw : Region.wanted o (yielded ops a.tmps) = true := by simp [Region.wanted, hgd]
    rw [if_pos hw]
    have hr := append_empty (P := P) w t o.type 5 i ht hi (some ⟨b, of, none⟩) n n p c (Nat.le_refl _)
    have k := h (some ⟨b, of, none⟩) n w (by rw [List.append_nil]; exact fun _ => ⟨b, of, rfl, hc⟩) (Below.refl _ _)
    unfold Oper.wp execOp
    simp only [ho, resolve, invoke, builtin, Sem.run_bind, Sem.run_pure, Result.andThen_ok, List.map_toArray, List.map_cons, List.map_nil, hs, hy, hr]
    exact k
  · obtain ⟨b', of', rfl, hc'⟩ := hin h0
    refine step_append_grows hgd s y t ho 5 i (.int .u8 0) 1 1 ht hi hz hsize hby rfl (by decide) (some ⟨b, of, none⟩) n n (xs.map (Value.int .u8)) hs (fun x => by cases x) (by simp [hx]) (fun b2 hb2 => by cases hb2; exact news_of_in hx hc) ⟨b', of', none⟩ m c (ys.map (Value.int .u8)) hy (by simp [hl]) (news_of_in hl hc') (ints_oneCell _ _) (by omega) (by unfold maxLen; omega) (by omega) ?_
    intro v' w' h1 h2
    have h1' : w'.ownsRow w.heap.size 5 1 v' (n + m) ((xs ++ ys).map (Value.int .u8)) := by simpa using h1
    have hv : ∃ p' cap, v' = .slice p' (n + m) cap := by
      rcases h1'.2 with ⟨_, r⟩ | ⟨g, cap, cur, r, _⟩
      · omega
      · exact ⟨_, _, r⟩
    obtain ⟨p', cap, rfl⟩ := hv
    exact h p' cap w' (Own.of h1').bytes ((Below.refl _ _).grown h2 (Nat.le_refl _) fun k hk => by cases hk)

theorem lit_frozen {w : World} {B : Nat} (h : LitAt w B) : BytesIn (w.freeze ⟨B, 5, none⟩ 1) (some ⟨B, 0, none⟩) 5 freI := fun _ => by
  refine ⟨B, 0, rfl, fun i hi => ?_⟩
  rw [freeze_cell, Nat.zero_add, h.cell]
  match i, hi with
  | 0, _ => rfl
  | 1, _ => rfl
  | 2, _ => rfl
  | 3, _ => rfl
  | 4, _ => rfl
theorem in_frozen {w : World} {a : Addr} {m n : Nat} {p : Option Addr} {xs : List Int} (h : BytesIn w p n xs) : BytesIn (w.freeze a m) p n xs := fun hn => by
  obtain ⟨b, of, e, hc⟩ := h hn
  exact ⟨b, of, e, fun i hi => by rw [freeze_cell]; exact hc i hi⟩

set_option maxHeartbeats 8000000 in
theorem specFresh_any (p pq pb ps pv pg pw pz : Option Addr) (n c nq cq nb cb ns cs nv cv ng cg nw cw nz cz : Nat) (cn kn t u e : Int) (xs : List Int) (w : World) (hx : xs.length = n) (h : BytesIn w p n xs) (hb : ∀ x ∈ xs, 0 ≤ x ∧ x < 256) (hcn : cn ≤ 9223372036854775807) : Calls Tryz.prog 14 #[.agg #[.slice p n c, .int .i64 cn, .int .i64 kn, .slice pq nq cq, .int .i64 t, .slice pb nb cb, .int .i64 u, .slice ps ns cs, .int .i64 e, .slice pv nv cv, .slice pg ng cg, .slice pw nw cw, .slice pz nz cz]] w fun r w' => ∃ p' c', r = .returned (.slice p' (freN n cn) c') ∧ Own 5 w' w.heap.size w'.heap.size (.slice p' (freN n cn) c') (freN n cn) (freL xs cn) ∧ Below w.heap.size w w' := by
  unfold freN freL
  have hGl : (fitL cn 2).reverse.length = fitN cn 2 := by rw [List.length_reverse, fitL, littleL_length]
  have hmb : fitN cn 2 ≤ 8 := fitN_le _ _
  have hby := freI_byte cn
  have hil : (freI ++ (fitL cn 2).reverse).length = 5 + fitN cn 2 := by rw [List.length_append, hGl]; rfl
  obtain ⟨i0, hi, hz0, hz1, hz2⟩ := info_parts infoByte
  have CG := fun X => specGreat_any cn 2 X hcn
  have CD := fun (pc : Option Addr) (cc : Nat) (X : World) (hX : Below w.heap.size w X) (hc : BytesIn X pc (5 + fitN cn 2) (freI ++ (fitL cn 2).reverse)) => specDerive_any none p pc 0 n (5 + fitN cn 2) 0 c cc 32 [] xs (freI ++ (fitL cn 2).reverse) X rfl hx hil (fun x => absurd x (by omega)) (in_below h hX) hc (fun x hx => by cases hx) hb hby
  generalize derL [] xs (freI ++ (fitL cn 2).reverse) 32 = DL at CD ⊢
  generalize derN 0 n (5 + fitN cn 2) 32 = DN at CD ⊢
  have hgl := hGl
  generalize (fitL cn 2).reverse = GL at CG CD hgl hGl hil hby
  generalize fitN cn 2 = m at CG CD hgl hGl hil hmb
  clear h hb hby hil hGl
  go_enter Tryz.func14, Tryz.ntmps14
  go_wp2_with (fail)
  obtain ⟨W1, hW1⟩ : ∃ W1, w.alloc (.cells #[.slice p n c, .int .i64 cn, .int .i64 kn, .slice pq nq cq, .int .i64 t, .slice pb nb cb, .int .i64 u, .slice ps ns cs, .int .i64 e, .slice pv nv cv, .slice pg ng cg, .slice pw nw cw, .slice pz nz cz] 32) = W1 := ⟨_, rfl⟩
  have CR : Cells W1 w.heap.size #[.slice p n c, .int .i64 cn, .int .i64 kn, .slice pq nq cq, .int .i64 t, .slice pb nb cb, .int .i64 u, .slice ps ns cs, .int .i64 e, .slice pv nv cv, .slice pg ng cg, .slice pw nw cw, .slice pz nz cz] := by rw [← hW1]; exact Cells.made w _ _
  have k1 : Below w.heap.size w W1 := by rw [← hW1]; exact made_below _ _ (Below.refl _ _)
  rw [hW1]
  clear hW1
  refine wp_region_noPanic ?_
  refine wp_region_T 99 (fun X => Cells X w.heap.size #[.slice p n c, .int .i64 cn, .int .i64 kn, .slice pq nq cq, .int .i64 t, .slice pb nb cb, .int .i64 u, .slice ps ns cs, .int .i64 e, .slice pv nv cv, .slice pg ng cg, .slice pw nw cw, .slice pz nz cz]) (fun _ => True) (by kernel_rfl) ?_
  have kT : Cells W1.drew w.heap.size #[.slice p n c, .int .i64 cn, .int .i64 kn, .slice pq nq cq, .int .i64 t, .slice pb nb cb, .int .i64 u, .slice ps ns cs, .int .i64 e, .slice pv nv cv, .slice pg ng cg, .slice pw nw cw, .slice pz nz cz] := CR.on (Below.refl _ _).drew
  have kw : Below w.heap.size w W1.drew := k1.drew
  clear CR k1
  generalize W1.drew = W at kT kw ⊢
  have kW : Below W.heap.size W W := Below.refl _ _
  refine anyT_takeT (i := 0) (v := .pointer (some ⟨w.heap.size, 0, none⟩)) rfl (by kernel_rfl) (by kernel_rfl) (by kernel_rfl) (by kernel_rfl) (fun _ _ _ h => h) (Or.inl ⟨by rfl, fun X hSw => by ((try dsimp only at hSw); go_simp)⟩) kT (fun _ => trivial) ?_
  (try simp only [Act.put, List.getElem_toArray, List.getElem_cons_zero, List.setIfInBounds_toArray, List.set_cons_zero, List.set_cons_succ])
  refine anyT_takeT (i := 1) (v := .slice p n c) rfl (by kernel_rfl) (by kernel_rfl) (by kernel_rfl) (by kernel_rfl) (fun _ _ _ h => h) (Or.inl ⟨by rfl, fun X hSw => by (have q0 := (hSw.2 0).1; go_simp)⟩) kT (fun _ => trivial) ?_
  (try simp only [Act.put, List.getElem_toArray, List.getElem_cons_zero, List.getElem_cons_succ, List.setIfInBounds_toArray, List.set_cons_zero, List.set_cons_succ])
  refine anyT_takeT (i := 4) (v := .pointer (some ⟨w.heap.size, 1, none⟩)) rfl (by kernel_rfl) (by kernel_rfl) (by kernel_rfl) (by kernel_rfl) (fun _ _ _ h => h) (Or.inl ⟨by rfl, fun X hSw => by ((try dsimp only at hSw); go_simp)⟩) kT (fun _ => trivial) ?_
  (try simp only [Act.put, List.getElem_toArray, List.getElem_cons_zero, List.getElem_cons_succ, List.setIfInBounds_toArray, List.set_cons_zero, List.set_cons_succ])
  refine anyT_takeT (i := 5) (v := .int .i64 cn) rfl (by kernel_rfl) (by kernel_rfl) (by kernel_rfl) (by kernel_rfl) (fun _ _ _ h => h) (Or.inl ⟨by rfl, fun X hSw => by (have q0 := (hSw.2 1).1; go_simp)⟩) kT (fun _ => trivial) ?_
  (try simp only [Act.put, List.getElem_toArray, List.getElem_cons_zero, List.getElem_cons_succ, List.setIfInBounds_toArray, List.set_cons_zero, List.set_cons_succ])
  refine anyT_pick (i := 2) (j := 6) (by kernel_rfl) rfl rfl (fun K hK => ?_) (fun K hK => ?_)
  · go_simp
    have e1 : LitAt (W.alloc (.cells #[.int .u8 102, .int .u8 114, .int .u8 101, .int .u8 115, .int .u8 104] 5)) W.heap.size := heap_made _ _
    have b1 : Below W.heap.size W (W.alloc (.cells #[.int .u8 102, .int .u8 114, .int .u8 101, .int .u8 115, .int .u8 104] 5)) := made_below _ _ (Below.refl _ _)
    have kwY1 := below_on kW b1
    have s1 := kW.size
    refine hK.out _ _ (kT.on kwY1) (fun _ => trivial) ?_
    clear hK K
    generalize W.alloc (.cells #[.int .u8 102, .int .u8 114, .int .u8 101, .int .u8 115, .int .u8 104] 5) = wY1 at *
    clear b1
    refine anyT_pick (i := 3) (j := 6) (by kernel_rfl) rfl rfl (fun K hK => ?_) (fun K hK => ?_)
    · have kc := convert_lit wY1 (W.heap.size) 5 5 e1
      go_simp
      have b2 := freeze_grown wY1 (W.heap.size) 5 1
      have kwY2 : Below W.heap.size W (wY1.freeze ⟨W.heap.size, 5, none⟩ 1) := kwY1.grown b2 kwY1.size (fun q hq => by have := Option.some.inj hq; have := s1; omega)
      have l2 : BytesIn (wY1.freeze ⟨W.heap.size, 5, none⟩ 1) (some ⟨W.heap.size, 0, none⟩) 5 freI := lit_frozen e1
      refine hK.out _ _ (kT.on kwY2) (fun _ => trivial) ?_
      clear hK K
      clear kc
      generalize wY1.freeze ⟨W.heap.size, 5, none⟩ 1 = wY2 at *
      clear b2
      refine anyT_one (i := 6) (by kernel_rfl) rfl (fun K hK => ?_)
      go_simp
      refine (CG wY2).mono ?_
      rintro r wY3 ⟨p3, c3, rfl, o3, b3⟩
      have kwY3 := below_on kwY2 b3
      have g3 := o3.bytes
      clear o3
      have l3 := in_below l2 b3
      go_wp2_with (fail)
      refine hK.out _ _ (kT.on kwY3) (fun _ => trivial) ?_
      clear hK K
      refine anyT_one (i := 7) (by kernel_rfl) rfl (fun K hK => ?_)
      refine step_full hi hz0 hz1 hz2 (.tmp 6) (.tmp 9) 22 Tryz.underlying22 rfl rfl rfl rfl l3 rfl (by decide) g3 hgl (by omega) ?_
      intro q4 d4 wY4 r4 b4
      have kwY4 := below_on kwY3 b4
      refine hK.out _ _ (kT.on kwY4) (fun _ => trivial) ?_
      clear hK K
      (try simp only [Act.put, List.getElem_toArray, List.getElem_cons_zero, List.getElem_cons_succ, List.setIfInBounds_toArray, List.set_cons_zero, List.set_cons_succ])
      refine anyT_one (i := 8) (by kernel_rfl) rfl (fun K hK => ?_)
      go_simp
      refine (CD q4 d4 wY4 (below_on kw kwY4) r4).mono ?_
      rintro r wY5 ⟨p5, c5, rfl, o5, b5⟩
      have kwY5 := below_on kwY4 b5
      go_wp2_with (fail)
      refine hK.out _ _ (kT.on kwY5) (fun _ => trivial) ?_
      clear hK K
      refine anyT_one (i := 9) (by kernel_rfl) rfl (fun K hK => ?_)
      go_simp
      refine hK.out _ _ (kT.on kwY5) (fun _ => trivial) ?_
      clear hK K
      refine anyT_done (by kernel_rfl) ?_ _
      refine NoPanic.normal ?_
      go_wp2_with (fail)
      go_ret
      exact ⟨_, _, rfl, ⟨owns_mono o5.1 (by have q1 := kw.size; have q2 := kwY4.size; omega), o5.2⟩, below_on kw kwY5⟩
    · go_simp
      refine (CG wY1).mono ?_
      rintro r wY6 ⟨p6, c6, rfl, o6, b6⟩
      have kwY6 := below_on kwY1 b6
      have g6 := o6.bytes
      clear o6
      have e6 := LitAt.on e1 b6
      go_wp2_with (fail)
      refine hK.out _ _ (kT.on kwY6) (fun _ => trivial) ?_
      clear hK K
      refine anyT_one (i := 3) (by kernel_rfl) rfl (fun K hK => ?_)
      have kc := convert_lit wY6 (W.heap.size) 5 5 e6
      go_simp
      have b7 := freeze_grown wY6 (W.heap.size) 5 1
      have kwY7 : Below W.heap.size W (wY6.freeze ⟨W.heap.size, 5, none⟩ 1) := kwY6.grown b7 kwY6.size (fun q hq => by have := Option.some.inj hq; have := s1; omega)
      have l7 : BytesIn (wY6.freeze ⟨W.heap.size, 5, none⟩ 1) (some ⟨W.heap.size, 0, none⟩) 5 freI := lit_frozen e6
      have g7 : BytesIn (wY6.freeze ⟨W.heap.size, 5, none⟩ 1) _ _ GL := in_frozen g6
      refine hK.out _ _ (kT.on kwY7) (fun _ => trivial) ?_
      clear hK K
      clear kc
      generalize wY6.freeze ⟨W.heap.size, 5, none⟩ 1 = wY7 at *
      clear b7
      refine anyT_one (i := 7) (by kernel_rfl) rfl (fun K hK => ?_)
      refine step_full hi hz0 hz1 hz2 (.tmp 6) (.tmp 9) 22 Tryz.underlying22 rfl rfl rfl rfl l7 rfl (by decide) g7 hgl (by omega) ?_
      intro q8 d8 wY8 r8 b8
      have kwY8 := below_on kwY7 b8
      refine hK.out _ _ (kT.on kwY8) (fun _ => trivial) ?_
      clear hK K
      (try simp only [Act.put, List.getElem_toArray, List.getElem_cons_zero, List.getElem_cons_succ, List.setIfInBounds_toArray, List.set_cons_zero, List.set_cons_succ])
      refine anyT_one (i := 8) (by kernel_rfl) rfl (fun K hK => ?_)
      go_simp
      refine (CD q8 d8 wY8 (below_on kw kwY8) r8).mono ?_
      rintro r wY9 ⟨p9, c9, rfl, o9, b9⟩
      have kwY9 := below_on kwY8 b9
      go_wp2_with (fail)
      refine hK.out _ _ (kT.on kwY9) (fun _ => trivial) ?_
      clear hK K
      refine anyT_one (i := 9) (by kernel_rfl) rfl (fun K hK => ?_)
      go_simp
      refine hK.out _ _ (kT.on kwY9) (fun _ => trivial) ?_
      clear hK K
      refine anyT_done (by kernel_rfl) ?_ _
      refine NoPanic.normal ?_
      go_wp2_with (fail)
      go_ret
      exact ⟨_, _, rfl, ⟨owns_mono o9.1 (by have q1 := kw.size; have q2 := kwY8.size; omega), o9.2⟩, below_on kw kwY9⟩
  · go_simp
    refine (CG W).mono ?_
    rintro r wY10 ⟨p10, c10, rfl, o10, b10⟩
    have kwY10 := below_on kW b10
    have g10 := o10.bytes
    clear o10
    go_wp2_with (fail)
    refine hK.out _ _ (kT.on kwY10) (fun _ => trivial) ?_
    clear hK K
    refine anyT_one (i := 2) (by kernel_rfl) rfl (fun K hK => ?_)
    go_simp
    have e11 : LitAt (wY10.alloc (.cells #[.int .u8 102, .int .u8 114, .int .u8 101, .int .u8 115, .int .u8 104] 5)) wY10.heap.size := heap_made _ _
    have b11 : Below wY10.heap.size wY10 (wY10.alloc (.cells #[.int .u8 102, .int .u8 114, .int .u8 101, .int .u8 115, .int .u8 104] 5)) := made_below _ _ (Below.refl _ _)
    have kwY11 := below_on kwY10 b11
    have s11 := kwY10.size
    have g11 := in_below g10 b11
    refine hK.out _ _ (kT.on kwY11) (fun _ => trivial) ?_
    clear hK K
    generalize wY10.alloc (.cells #[.int .u8 102, .int .u8 114, .int .u8 101, .int .u8 115, .int .u8 104] 5) = wY11 at *
    clear b11
    refine anyT_one (i := 3) (by kernel_rfl) rfl (fun K hK => ?_)
    have kc := convert_lit wY11 (wY10.heap.size) 5 5 e11
    go_simp
    have b12 := freeze_grown wY11 (wY10.heap.size) 5 1
    have kwY12 : Below W.heap.size W (wY11.freeze ⟨wY10.heap.size, 5, none⟩ 1) := kwY11.grown b12 kwY11.size (fun q hq => by have := Option.some.inj hq; have := s11; omega)
    have l12 : BytesIn (wY11.freeze ⟨wY10.heap.size, 5, none⟩ 1) (some ⟨wY10.heap.size, 0, none⟩) 5 freI := lit_frozen e11
    have g12 : BytesIn (wY11.freeze ⟨wY10.heap.size, 5, none⟩ 1) _ _ GL := in_frozen g11
    refine hK.out _ _ (kT.on kwY12) (fun _ => trivial) ?_
    clear hK K
    clear kc
    generalize wY11.freeze ⟨wY10.heap.size, 5, none⟩ 1 = wY12 at *
    clear b12
    refine anyT_one (i := 7) (by kernel_rfl) rfl (fun K hK => ?_)
    refine step_full hi hz0 hz1 hz2 (.tmp 6) (.tmp 9) 22 Tryz.underlying22 rfl rfl rfl rfl l12 rfl (by decide) g12 hgl (by omega) ?_
    intro q13 d13 wY13 r13 b13
    have kwY13 := below_on kwY12 b13
    refine hK.out _ _ (kT.on kwY13) (fun _ => trivial) ?_
    clear hK K
    (try simp only [Act.put, List.getElem_toArray, List.getElem_cons_zero, List.getElem_cons_succ, List.setIfInBounds_toArray, List.set_cons_zero, List.set_cons_succ])
    refine anyT_one (i := 8) (by kernel_rfl) rfl (fun K hK => ?_)
    go_simp
    refine (CD q13 d13 wY13 (below_on kw kwY13) r13).mono ?_
    rintro r wY14 ⟨p14, c14, rfl, o14, b14⟩
    have kwY14 := below_on kwY13 b14
    go_wp2_with (fail)
    refine hK.out _ _ (kT.on kwY14) (fun _ => trivial) ?_
    clear hK K
    refine anyT_one (i := 9) (by kernel_rfl) rfl (fun K hK => ?_)
    go_simp
    refine hK.out _ _ (kT.on kwY14) (fun _ => trivial) ?_
    clear hK K
    refine anyT_done (by kernel_rfl) ?_ _
    refine NoPanic.normal ?_
    go_wp2_with (fail)
    go_ret
    exact ⟨_, _, rfl, ⟨owns_mono o14.1 (by have q1 := kw.size; have q2 := kwY13.size; omega), o14.2⟩, below_on kw kwY14⟩

set_option maxHeartbeats 8000000 in
theorem implFresh_any (p pq pb ps pv pg pw pz : Option Addr) (n c nq cq nb cb ns cs nv cv ng cg nw cw nz cz : Nat) (cn kn t u e : Int) (xs : List Int) (w : World) (hx : xs.length = n) (h : BytesIn w p n xs) (hb : ∀ x ∈ xs, 0 ≤ x ∧ x < 256) (hcn : cn ≤ 9223372036854775807) (hK : KeysIs w) : Calls Tryz.prog 16 #[.agg #[.slice p n c, .int .i64 cn, .int .i64 kn, .slice pq nq cq, .int .i64 t, .slice pb nb cb, .int .i64 u, .slice ps ns cs, .int .i64 e, .slice pv nv cv, .slice pg ng cg, .slice pw nw cw, .slice pz nz cz]] w fun r w' => ∃ p' c', r = .returned (.slice p' (freN n cn) c') ∧ Own 5 w' w.heap.size w'.heap.size (.slice p' (freN n cn) c') (freN n cn) (freL xs cn) ∧ Below w.heap.size w w' := by
  unfold freN freL
  have hGl : (fitL cn 2).reverse.length = fitN cn 2 := by rw [List.length_reverse, fitL, littleL_length]
  have hmb : fitN cn 2 ≤ 8 := fitN_le _ _
  have hby := freI_byte cn
  have hil : (freI ++ (fitL cn 2).reverse).length = 5 + fitN cn 2 := by rw [List.length_append, hGl]; rfl
  have CG := fun X => implGreat_any cn 2 X hcn
  have CD := fun (pc : Option Addr) (cc : Nat) (X : World) (hX : Below w.heap.size w X) (hc : BytesIn X pc (5 + fitN cn 2) (freI ++ (fitL cn 2).reverse)) => implDerive_any none p pc 0 n (5 + fitN cn 2) 0 c cc 32 [] xs (freI ++ (fitL cn 2).reverse) X rfl hx hil (fun x => absurd x (by omega)) (in_below h hX) hc (fun x hx => by cases hx) hb hby (keys_below hK hX)
  generalize derL [] xs (freI ++ (fitL cn 2).reverse) 32 = DL at CD ⊢
  generalize derN 0 n (5 + fitN cn 2) 32 = DN at CD ⊢
  have hgl := hGl
  generalize (fitL cn 2).reverse = GL at CG CD hgl hGl hil hby
  generalize fitN cn 2 = m at CG CD hgl hGl hil hmb
  clear h hb hby hil hGl
  have kc := fun (W : World) (C : Array Value) (n c : Nat) => Lib.run_convert_bytes_const (P := Tryz.prog) W 22 5 C n c Tryz.underlying22 Tryz.underlying5
  obtain ⟨W1, hW1⟩ : ∃ W1, w.alloc (.cells #[.slice p n c, .int .i64 cn, .int .i64 kn, .slice pq nq cq, .int .i64 t, .slice pb nb cb, .int .i64 u, .slice ps ns cs, .int .i64 e, .slice pv nv cv, .slice pg ng cg, .slice pw nw cw, .slice pz nz cz] 32) = W1 := ⟨_, rfl⟩
  have CR : Cells W1 w.heap.size #[.slice p n c, .int .i64 cn, .int .i64 kn, .slice pq nq cq, .int .i64 t, .slice pb nb cb, .int .i64 u, .slice ps ns cs, .int .i64 e, .slice pv nv cv, .slice pg ng cg, .slice pw nw cw, .slice pz nz cz] := by rw [← hW1]; exact Cells.made w _ _
  have k1 : Below w.heap.size w W1 := by rw [← hW1]; exact made_below _ _ (Below.refl _ _)
  have hlit := lit_in W1 5 (5, 6) 102 114 101 115 104
  have bl : Below W1.heap.size W1 (W1.alloc (.cells #[.int .u8 102, .int .u8 114, .int .u8 101, .int .u8 115, .int .u8 104] 5 (5, 6))) := made_below _ _ (Below.refl _ _)
  obtain ⟨W2, hW2⟩ : ∃ W2, W2 = W1.alloc (.cells #[.int .u8 102, .int .u8 114, .int .u8 101, .int .u8 115, .int .u8 104] 5 (5, 6)) := ⟨_, rfl⟩
  rw [← hW2] at hlit bl
  replace hW2 : Hid (W1.alloc (.cells #[.int .u8 102, .int .u8 114, .int .u8 101, .int .u8 115, .int .u8 104] 5 (5, 6)) = W2) := hW2.symm
  replace hW1 : Hid (w.alloc (.cells #[.slice p n c, .int .i64 cn, .int .i64 kn, .slice pq nq cq, .int .i64 t, .slice pb nb cb, .int .i64 u, .slice ps ns cs, .int .i64 e, .slice pv nv cv, .slice pg ng cg, .slice pw nw cw, .slice pz nz cz] 32) = W1) := hW1
  have q1 : W2.cell? ⟨w.heap.size, 1, none⟩ = some (.int .i64 cn) := ((CR.on bl).2 1).1
  have k2 := below_on k1 bl
  go_enter Tryz.func16, Tryz.ntmps16
  go_wp2_with (first | rw [hW1.out] | rw [hW2.out])
  refine (CG _).mono ?_
  rintro r w3 ⟨p3, c3, rfl, o3, b3⟩
  have k3 := below_on k2 b3
  have l3 := in_below hlit b3
  have D3 := (CR.on bl).on b3
  have CC := concatTwo (some ⟨W1.heap.size, 0, none⟩) p3 5 m 5 c3 freI GL w3 rfl hgl (by omega) l3 o3.bytes
  clear q1
  go_wp2_with (fail)
  refine CC.mono ?_
  rintro r w4 ⟨p4, c4, rfl, o4, b4⟩
  have k4 := below_on k3 b4
  have D4 := D3.on b4
  have q0 : w4.cell? ⟨w.heap.size, 0, none⟩ = some (.slice p n c) := (D4.2 0).1
  go_wp2_with (fail)
  refine (CD p4 c4 _ k4 o4.bytes).mono ?_
  rintro r w5 ⟨p5, c5, rfl, o5, b5⟩
  go_wp2_with (fail)
  go_ret
  exact ⟨_, _, rfl, ⟨owns_mono o5.1 k4.size, o5.2⟩, below_on k4 b5⟩

end Go.Proofs.YthfnechcddmjkaaGreatDoor
