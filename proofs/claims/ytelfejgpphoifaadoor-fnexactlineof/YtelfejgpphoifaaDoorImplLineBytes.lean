/-
  What the program answers of a line's bytes. Conditions: lengths that a law hands over, bytes that lie there.
-/
import Derived.Test.YtelfejgpphoifaaDoorSpecLineBytes
import Derived.Test.YtelfejgpphoifaaDoorConcat6
namespace Go.Proofs.YtelfejgpphoifaaDoor
open Go.RowKit
set_option maxRecDepth 100000

theorem in_allocL {w : World} {p : Option Addr} {n : Nat} {xs : List Int} (h : BytesIn w p n xs) (o : Obj) : BytesIn (w.alloc o) p n xs := in_below h ((Below.refl _ _).alloc (Nat.le_refl _) _)
theorem below_allocL {a w : World} (h : Below a.heap.size a w) (o : Obj) : Below a.heap.size a (w.alloc o) := h.alloc h.size o
theorem in_drewL {w : World} {p : Option Addr} {n : Nat} {xs : List Int} (h : BytesIn w p n xs) : BytesIn w.drew p n xs := in_below h (Below.refl _ _).drew
theorem unN_empty : unN ByteArray.empty = 0 := by unfold unN; split <;> rfl
theorem route_row {kd : Int} {s : ByteArray} (fr : kd ≠ 3 → unN s = 8) (fe : kd = 3 → s = ByteArray.empty) : (unL s).length = Nat.min (unN s) 8 ∧ splice (noughtV 8) 0 ((unL s).map (Value.int .u8)) = (rtL kd s).map (Value.int .u8) := by
  rw [unL_len]
  by_cases h3 : kd = 3
  · have e := fe h3
    have e0 : unN s = 0 := by rw [e]; exact unN_empty
    have e1 : unL s = [] := List.eq_nil_of_length_eq_zero (by rw [unL_len, e0])
    rw [e1, e0, rtL, if_pos h3]
    exact ⟨rfl, by simp [splice, noughtV]⟩
  · have e0 := fr h3
    have e1 : ((unL s).map (Value.int .u8)).length = 8 := by rw [List.length_map, unL_len, e0]
    rw [e0, rtL, if_neg h3]
    exact ⟨rfl, by rw [splice, List.take_zero, List.nil_append, Nat.zero_add, List.drop_of_length_le (by rw [noughtV_length, e1]; exact Nat.le_refl _), List.append_nil]⟩

set_option maxHeartbeats 16000000 in
theorem implLineBytes_any (kd : Int) (s : ByteArray) (t d : Int) (p : Option Addr) (n c : Nat) (xs : List Int) (w : World) (hs : s.size ≤ 1048576) (hx : xs.length = n) (h : BytesIn w p n xs) :
    Calls Tryd.prog 27 #[.agg #[.int .i64 kd, .string s, .int .i64 t, .int .i64 d, .slice p n c]] w fun z w' => ∃ p' c', z = .returned (.slice p' (lineN kd s t d n) c') ∧ Own 5 w' w.heap.size w'.heap.size (.slice p' (lineN kd s t d n) c') (lineN kd s t d n) (lineL kd s t d n xs) ∧ Below w.heap.size w w' := by
  obtain ⟨i0, hi, hz0, hz1, hz2⟩ := info_parts infoByte
  have hs5 : (Tryd.prog.info? 5).map (·.size) = some 1 := by rw [hi]; simp [hz1]
  obtain ⟨W, hW⟩ : ∃ W, W = w.alloc (.cells #[.int .i64 kd, .string s, .int .i64 t, .int .i64 d, .slice p n c] 24) := ⟨_, rfl⟩
  have kA : Below w.heap.size w W := by rw [hW]; exact made_below _ _ (Below.refl _ _)
  have CB : Cells W w.heap.size #[.int .i64 kd, .string s, .int .i64 t, .int .i64 d, .slice p n c] := by rw [hW]; exact Cells.made _ _ _
  replace hW : Hid (w.alloc (.cells #[.int .i64 kd, .string s, .int .i64 t, .int .i64 d, .slice p n c] 24) = W) := hW.symm
  have c0 : W.cell? ⟨w.heap.size, 0, none⟩ = some (.int .i64 kd) := (CB.2 0).1
  have c1 : W.cell? ⟨w.heap.size, 1, none⟩ = some (.string s) := (CB.2 1).1
  have c2 : W.cell? ⟨w.heap.size, 2, none⟩ = some (.int .i64 t) := (CB.2 2).1
  have c3 : W.cell? ⟨w.heap.size, 3, none⟩ = some (.int .i64 d) := (CB.2 3).1
  have c4 : W.cell? ⟨w.heap.size, 4, none⟩ = some (.slice p n c) := (CB.2 4).1
  have hh := in_below h kA
  have CO := fun X (hX : BytesIn X p n xs) => implLineOk_any kd s t d p n c xs X hs hx hX
  cases hB : lnB kd s t d n
  · have e1 : lineN kd s t d n = 0 := by unfold lineN; rw [hB]; rfl
    have e2 : lineL kd s t d n xs = [] := by unfold lineL; rw [hB]; rfl
    rw [hB] at CO
    rw [e1, e2]
    clear hB e1 e2 h
    go_enter Tryd.func27, Tryd.ntmps27
    go_wp2_with (rw [hW.out])
    refine (CO _ hh).mono ?_
    rintro z w1 ⟨rfl, b1⟩
    have k1 := below_on kA b1
    go_wp2_with (fail)
    go_ret
    exact ⟨_, _, rfl, ⟨⟨rfl, .inl ⟨rfl, rfl⟩⟩, fun k hk => by cases hk⟩, k1⟩
  · have e1 : lineN kd s t d n = 18 + n := by unfold lineN; rw [hB]; rfl
    have e2 : lineL kd s t d n xs = lyL kd s t d n xs ++ (fitL ((16 + n : Nat) : Int) 2).reverse := by unfold lineL; rw [hB]; rfl
    obtain ⟨fk, ft, fd, fn, fr, fe⟩ := lnB_facts hB
    have hRl := rtL_len fr
    obtain ⟨hm8, hsp⟩ := route_row fr fe
    rw [hB] at CO
    obtain ⟨TN, hTN⟩ : ∃ TN, TN = 18 + n := ⟨_, rfl⟩
    obtain ⟨TL, hTL⟩ : ∃ TL, TL = lyL kd s t d n xs ++ (fitL ((16 + n : Nat) : Int) 2).reverse := ⟨_, rfl⟩
    rw [e1, e2, ← hTN, ← hTL]
    replace hTN : Hid (TN = 18 + n) := hTN
    unfold lyL at hTL
    replace hTL : Hid _ := hTL
    have G4 := fun X => implGreat_any d 4 X (by omega)
    rw [fit_four d fd.1] at G4
    have G2 := fun X => implGreat_any (n : Int) 2 X (by omega)
    rw [fit_two (n : Int) (by omega)] at G2
    have GT : ∀ (N5 : Nat), N5 = 16 + n → ∀ X, Calls Tryd.prog 43 #[.int .i64 (N5 : Int), .int .i64 2] X fun e w' => ∃ p c, e = .returned (.slice p 2 c) ∧ Own 5 w' X.heap.size w'.heap.size (.slice p 2 c) 2 (fitL ((16 + n : Nat) : Int) 2).reverse ∧ Below X.heap.size X w' := fun N5 e X => by
      have := implGreat_any (N5 : Int) 2 X (by omega)
      rw [fit_two (N5 : Int) (by omega), e] at this
      rw [e]
      exact this
    have hF4 := fit_four' d fd.1
    have hF2 := fit_two' (n : Int) (by omega)
    generalize (fitL ((16 + n : Nat) : Int) 2).reverse = FT at GT hTL
    generalize (fitL d 4).reverse = FD at G4 hTL hF4
    generalize (fitL (n : Int) 2).reverse = FN at G2 hTL hF2
    have hwk : IntKind.u8.wrap kd = kd := by rw [IntKind.wrap_u8]; omega
    have hwt : IntKind.u8.wrap t = t := by rw [IntKind.wrap_u8]; omega
    have CU := fun X => implUnhex_any s X hs
    have mk8 : ∀ W, (Instr.makeSlice 22 (.int .i64 8) (.int .i64 8)).run Tryd.prog W = .ok (.slice (some ⟨W.heap.size, 0, none⟩) 8 8) (W.alloc (.cells (madeCells #[.int .u8 0] 8) 5)) := fun W => makeB 8 (by omega) W
    rw [madeM] at mk8
    obtain ⟨RL, hRL⟩ : ∃ RL, RL = rtL kd s := ⟨_, rfl⟩
    rw [← hRL] at hRl hsp
    have hTL' := hTL.out
    rw [← hRL] at hTL'
    replace hTL : Hid _ := hTL'
    clear hTL' hRL e1 e2 hB h fk
    go_enter Tryd.func27, Tryd.ntmps27
    go_wp2_with (rw [hW.out])
    refine (CO _ hh).mono ?_
    rintro z v1 ⟨rfl, b1⟩
    have kv1 := below_on kA b1
    replace hh := in_below hh b1
    replace CB := CB.on b1
    have hBG0 := CB.1
    have hpG0 := in_lt hh
    clear c0 c1 c2 c3 c4 CO b1
    obtain ⟨v2, hv2⟩ : ∃ X, X = v1.alloc (.cells (noughtV 8).toArray 5) := ⟨_, rfl⟩
    have b2 : Below v1.heap.size v1 v2 := made_eq hv2
    have hrow : v2.heap[v1.heap.size]? = some (.cells (noughtV 8).toArray 5 (0, 0)) := by rw [hv2]; exact heap_made _ _
    replace hv2 : Hid (v1.alloc (.cells (noughtV 8).toArray 5) = v2) := hv2.symm
    obtain ⟨G8, hG8⟩ : ∃ G8, G8 = v1.heap.size := ⟨_, rfl⟩
    have kv2 := below_on kv1 b2
    replace hh := in_below hh b2
    replace CB := CB.on b2
    have c1 : v2.cell? ⟨w.heap.size, 1, none⟩ = some (.string s) := (CB.2 1).1
    have hG8v : G8 < v2.heap.size := by rw [hG8]; exact (Array.getElem?_eq_some_iff.1 hrow).1
    have hwG : w.heap.size ≤ G8 := by rw [hG8]; exact kv1.size
    rw [← hG8] at hrow hBG0 hpG0
    replace hG8 : Hid (v1.heap.size = G8) := hG8.symm
    go_wp2_with (first | rw [hv2.out] | rw [hG8.out])
    refine (CU _).mono ?_
    rintro z v3 ⟨pu, cu, rfl, ru, b3⟩
    have kv3 := below_on kv2 b3
    replace hh := in_below hh b3
    replace CB := CB.on b3
    replace hrow := (b3.block G8 hG8v).trans hrow
    have hG8v3 : G8 < v3.heap.size := Nat.lt_of_lt_of_le hG8v b3.size
    clear c1 CU mk8 b3 b2
    have hpos : 0 < ((unL s).map (Value.int .u8)).length → ∃ ad, pu = some ad ∧ ∀ j v, ((unL s).map (Value.int .u8))[j]? = some v → v3.cell? (ad.add j) = some v := fun h0 => in_cells ru.bytes ru.len h0
    have hfit : 0 + ((unL s).map (Value.int .u8)).length ≤ (noughtV 8).length := by rw [List.length_map, hm8, noughtV_length, Nat.zero_add]; exact Nat.min_le_right _ _
    go_wp2_with (refine wpList_copy_splice (by rfl) (.tmp 17) (.tmp 18) 22 22 (by rfl) 5 Tryd.underlying22 hs5 (some ⟨G8, 0, none⟩) pu 8 8 (unN s) cu (by rfl) (by rfl) G8 0 (noughtV 8) 5 hrow ((unL s).map (Value.int .u8)) (by rw [List.length_map]; exact hm8) (fun h0 => ⟨rfl, hpos h0⟩) hfit (u8_one _) G8 v3 (Below.refl _ _) (Nat.le_refl _) ?_; intro v4 hg4 hb4)
    have hg5 := hg4.out
    rw [hsp] at hg5
    have hR8 : BytesIn v4 (some ⟨G8, 0, none⟩) 8 RL := (row_own hg5 (Nat.le_refl _) hRl (by omega)).bytes
    replace hh := in_low hh hb4 hpG0
    replace CB := cells_under CB hb4 hBG0
    have kv : Below w.heap.size w v4 := kv3.trans (hb4.mono hwG)
    clear hg4 hg5 hrow hpos hfit hsp hm8 ru hb4 kv3 hG8 hv2 hpG0 hBG0 hG8v hG8v3 fr fe
    have HK : ∀ w', Below v4.heap.size v4 w' → w'.cell? ⟨w.heap.size, 0, none⟩ = some (.int .i64 kd) ∧ w'.cell? ⟨w.heap.size, 2, none⟩ = some (.int .i64 t) ∧ w'.cell? ⟨w.heap.size, 3, none⟩ = some (.int .i64 d) ∧ w'.cell? ⟨w.heap.size, 4, none⟩ = some (.slice p n c) := fun w' hX => ⟨((CB.on hX).2 0).1, ((CB.on hX).2 2).1, ((CB.on hX).2 3).1, ((CB.on hX).2 4).1⟩
    have CC := fun (p0 p2 p3 p4 : Option Addr) (c0 c2 c3 c4 : Nat) (w0 : World) (hw : Below v4.heap.size v4 w0) (i0 : BytesIn w0 p0 1 [kd]) (i1 : BytesIn w0 (some ⟨G8, 0, none⟩) 8 RL) (i2 : BytesIn w0 p2 1 [t]) (i3 : BytesIn w0 p3 4 FD) (i4 : BytesIn w0 p4 2 FN) (i5 : BytesIn w0 p n xs) (gr : Nat) (hgr : w0.heap.size = gr) => concat6L p0 (some ⟨G8, 0, none⟩) p2 p3 p4 p 1 8 1 4 2 n c0 8 c2 c3 c4 c [kd] RL [t] FD FN xs v4 w0 rfl hRl rfl hF4 hF2 hx (by omega) (by omega) hw i0 i1 i2 i3 i4 i5 gr hgr
    obtain ⟨N5, hN5⟩ := hid_ex (1 + 8 + 1 + 4 + 2 + n)
    obtain ⟨L5, hL5⟩ : ∃ L, L = [kd] ++ RL ++ [t] ++ FD ++ FN ++ xs := ⟨_, rfl⟩
    rw [← hN5.out, ← hL5] at CC
    replace hL5 : Hid (L5 = [kd] ++ RL ++ [t] ++ FD ++ FN ++ xs) := hL5
    have hN5e : N5 = 16 + n := by rw [hN5.out]
    have GT5 := GT N5 hN5e
    have m5 : N5 ≤ 1576 := Nat.le_trans (Nat.le_of_eq hN5e) (by omega)
    replace hN5e : Hid _ := hN5e
    clear GT hN5
    go_region_held3 (fun w' => w'.cell? ⟨w.heap.size, 0, none⟩ = some (.int .i64 kd) ∧ w'.cell? ⟨w.heap.size, 2, none⟩ = some (.int .i64 t) ∧ w'.cell? ⟨w.heap.size, 3, none⟩ = some (.int .i64 d) ∧ w'.cell? ⟨w.heap.size, 4, none⟩ = some (.slice p n c)) (exact HK _ (by repeat (with_reducible (first | exact Below.refl _ _ | refine below_allocL ?_ _ | refine below_drewL ?_ | refine below_on ?_ bg1 | refine below_on ?_ bg2 | refine below_on ?_ bk)))) (first | (go_at_call 43; with_reducible refine (G4 _).mono ?_; rintro z wg1 ⟨pg1, cg1, rfl, rg1, bg1⟩) | (go_at_call 43; with_reducible refine (G2 _).mono ?_; rintro z wg2 ⟨pg2, cg2, rfl, rg2, bg2⟩) | (go_at_call 42; refine (CC _ _ _ _ _ _ _ _ _ (by repeat (with_reducible (first | exact Below.refl _ _ | refine below_allocL ?_ _ | refine below_drewL ?_ | refine below_on ?_ bg1 | refine below_on ?_ bg2 | refine below_on ?_ bk))) (by repeat (with_reducible (first | exact rg1.bytes | exact rg2.bytes | exact in_byte _ _ _ _ (by simp) | exact hR8 | exact hh | refine in_allocL ?_ _ | refine in_drewL ?_ | refine in_below ?_ bg1 | refine in_below ?_ bg2))) (by repeat (with_reducible (first | exact rg1.bytes | exact rg2.bytes | exact in_byte _ _ _ _ (by simp) | exact hR8 | exact hh | refine in_allocL ?_ _ | refine in_drewL ?_ | refine in_below ?_ bg1 | refine in_below ?_ bg2))) (by repeat (with_reducible (first | exact rg1.bytes | exact rg2.bytes | exact in_byte _ _ _ _ (by simp) | exact hR8 | exact hh | refine in_allocL ?_ _ | refine in_drewL ?_ | refine in_below ?_ bg1 | refine in_below ?_ bg2))) (by repeat (with_reducible (first | exact rg1.bytes | exact rg2.bytes | exact in_byte _ _ _ _ (by simp) | exact hR8 | exact hh | refine in_allocL ?_ _ | refine in_drewL ?_ | refine in_below ?_ bg1 | refine in_below ?_ bg2))) (by repeat (with_reducible (first | exact rg1.bytes | exact rg2.bytes | exact in_byte _ _ _ _ (by simp) | exact hR8 | exact hh | refine in_allocL ?_ _ | refine in_drewL ?_ | refine in_below ?_ bg1 | refine in_below ?_ bg2))) (by repeat (with_reducible (first | exact rg1.bytes | exact rg2.bytes | exact in_byte _ _ _ _ (by simp) | exact hR8 | exact hh | refine in_allocL ?_ _ | refine in_drewL ?_ | refine in_below ?_ bg1 | refine in_below ?_ bg2))) _ (by simp)).mono ?_; rintro z wk ⟨pk, ck, rfl, rk, bk⟩))
    all_goals
      have kk := below_on kv bk
      have ho5 := rk.1
      have s0 : v4.heap.size ≤ wk.heap.size := bk.size
      clear bk rk rg1 rg2
      go_wp2_with (fail)
      refine (GT5 _).mono ?_
      rintro e x6 ⟨pg6, cg6, rfl, rg6, d6⟩
      have y6 := d6.size
      replace ho5 := owns_below ho5 d6
      have i6 := rg6.bytes
      have j6 := rg6.len
      have kx6 := below_on kk d6
      have hwv : w.heap.size ≤ v4.heap.size := kv.size
      go_wp2_with (at_builtin; refine list_spreadA hi hz0 hz1 hz2 _ _ 22 Tryd.underlying22 ho5 i6 j6 (by omega) (by omega) (by omega) (by rfl) (by rfl) (by rfl) (by rfl) ?_; intro p6 q6 w6 ho6 hb6; obtain ⟨N6, hN6⟩ := hid_ex (N5 + 2); rw [← hN6.out] at ho6 ⊢)
      have k6 := kx6.trans (hb6.mono hwv)
      have hL : L5 ++ FT = TL := by rw [hTL.out, hL5.out]
      have hNe : N6 = TN := by rw [hN6.out, hN5e.out, hTN.out]; omega
      rw [hL] at ho6
      subst hNe
      go_ret
      exact ⟨_, _, rfl, ⟨owns_mono ho6 hwv, owns_top ho6⟩, k6⟩

end Go.Proofs.YtelfejgpphoifaaDoor
