/-
  What the program's ladderAt and changed answer. Conditions: none.
-/
import Derived.Test.YtghoibggmddkmaoLadRow
namespace Go.Proofs.Ytghoibggmddkmao
open Go.RowKit

theorem RowL.low {ty n : Nat} {w : World} {lo lo' g : Nat} {L : List Value} (h : RowL ty n w lo g L) (hl : lo' ≤ lo) : RowL ty n w lo' g L := owns_mono h hl

theorem yieldsIf_build {P : Program} {ops : Array Oper} {S : World → Prop} {op : Oper} {a : Act} (hw : Region.wanted op (yielded ops a.tmps) = true) (t : TypeId) (parts : Array (Nat × Operand)) (ho : op.op = .build t parts)
    (vs : Array (Nat × Value)) (hvs : (parts.map fun (i, x) => (i, a.eval x)) = vs) {v : Value} (hr : ∀ w, (Instr.build t vs).run P w = .ok v w) : YieldsIf P ops S op v a :=
  .inl ⟨hw, fun w _ => by
    unfold execOp
    subst hvs
    simp only [ho, Sem.run_bind, Sem.run_pure, Result.andThen_ok, hr]⟩
theorem wpL_build_run {P : Program} {ops : Array Oper} {rest : List Oper} {o : Oper} {a : Act} {w : World} {Q : Exit → Act → World → Prop} (hgd : o.guard = none) (t : TypeId) (parts : Array (Nat × Operand)) (ho : o.op = .build t parts)
    (vs : Array (Nat × Value)) (hvs : (parts.map fun (i, x) => (i, a.eval x)) = vs) {v : Value} (hr : (Instr.build t vs).run P w = .ok v w) (h : wpList P ops Q rest (a.put o.dst v) w) : wpList P ops Q (o :: rest) a w :=
  wpList_plain hgd fun _ hK => by
    unfold Oper.wp execOp
    subst hvs
    simp only [ho, Sem.run_bind, Sem.run_pure, Result.andThen_ok, hr]
    exact hK _ _ h
theorem four_of {L : List Value} (h : Q4 L) : ∃ a b c d, L = [a, b, c, d] := by
  have hl := h.len
  match L, hl with
  | [a, b, c, d], _ => exact ⟨a, b, c, d, rfl⟩
theorem b_rat {A C : List Value} (hA : Q4 A) (hC : Q4 C) (w : World) : (Instr.build 42 #[(0, .agg A.toArray), (1, .agg C.toArray)]).run Try.prog w = .ok (.agg (A ++ C).toArray) w := by
  obtain ⟨a, b, c, d, rfl⟩ := four_of hA
  obtain ⟨a', b', c', d', rfl⟩ := four_of hC
  exact run_build w 42 _ _ (by kernel_rfl)

theorem b_rat1 {A C : List Value} (hA : Q4 A) (hC : C = uV (numU 0) 4) (w : World) : (Instr.build 42 #[(0, .agg A.toArray)]).run Try.prog w = .ok (.agg (A ++ C).toArray) w := by
  obtain ⟨a, b, c, d, rfl⟩ := four_of hA
  subst hC
  exact run_build w 42 _ _ (by kernel_rfl)

theorem b_lad {X A C B D : List Value} (hX : Q4 X) (hA : Q4 A) (hC : Q4 C) (hB : Q4 B) (hD : Q4 D) (w : World) : (Instr.build 44 #[(0, .agg X.toArray), (1, .agg (A ++ C).toArray), (2, .agg (B ++ D).toArray)]).run Try.prog w = .ok (.agg (LadV X A C B D).toArray) w := by
  obtain ⟨a, b, c, d, rfl⟩ := four_of hX
  obtain ⟨a1, b1, c1, d1, rfl⟩ := four_of hA
  obtain ⟨a2, b2, c2, d2, rfl⟩ := four_of hC
  obtain ⟨a3, b3, c3, d3, rfl⟩ := four_of hB
  obtain ⟨a4, b4, c4, d4, rfl⟩ := four_of hD
  exact run_build w 44 _ _ (by kernel_rfl)

theorem b_one {A : List Value} (hA : A = uV (numU 1) 4) (w : World) : (Instr.build 38 #[(0, .int .u64 1)]).run Try.prog w = .ok (.agg A.toArray) w := by
  subst hA
  exact run_build w 38 _ _ (by kernel_rfl)

theorem b_curve {A : List Value} (hA : A = uV (numU 121665) 4) (w : World) : (Instr.build 38 #[(0, .int .u64 121665)]).run Try.prog w = .ok (.agg A.toArray) w := by
  subst hA
  exact run_build w 38 _ _ (by kernel_rfl)

set_option maxRecDepth 100000 in
set_option maxHeartbeats 8000000 in
theorem ladderAt_sym (LX L1 L0 : List Value) (w : World) (hX : Q4 LX) (h1 : L1 = uV (numU 1) 4) (h0 : L0 = uV (numU 0) 4) :
    Calls Try.prog 25 #[.agg LX.toArray] w fun e w' => e = .returned (.agg (LadV LX L1 L0 LX L1).toArray) ∧ Below w.heap.size w w' := by
  have q1 : Q4 L1 := by rw [h1]; exact q4 1
  have q0 : Q4 L0 := by rw [h0]; exact q4 0
  have B1 := fun X => b_one h1 X
  have B2 := fun X => b_rat1 q1 h0 X
  have B3 := fun X => b_rat hX q1 X
  have B4 := fun X => b_lad hX q1 q0 hX q1 X
  have hlen := LadV_length hX q1 q0 hX q1
  have hone := LadV_one hX q1 q0 hX q1
  obtain ⟨LR, hR⟩ : ∃ L, L = LadV LX L1 L0 LX L1 := ⟨_, rfl⟩
  rw [← hR] at hlen hone ⊢
  simp only [← hR] at B4
  clear hR h0
  obtain ⟨LP, hP⟩ : ∃ L, L = L1 ++ L0 := ⟨_, rfl⟩
  simp only [← hP] at B2 B4
  obtain ⟨LQ, hQ⟩ : ∃ L, L = LX ++ L1 := ⟨_, rfl⟩
  simp only [← hQ] at B3 B4
  clear hP hQ
  have hz := (zero_of_info infoLad).1
  have hzf := (zero_of_info infoU4).1
  obtain ⟨Z, hZ⟩ : ∃ Z, Z = (uV (fun _ => 0) 20).toArray := ⟨_, rfl⟩
  obtain ⟨Zf, hZf⟩ : ∃ Z, Z = (uV (fun _ => 0) 4).toArray := ⟨_, rfl⟩
  rw [← hZ] at hz
  rw [← hZf] at hzf
  have hZ1 : Zf.setIfInBounds 0 (Value.int .u64 1) = L1.toArray := by rw [hZf, h1]; kernel_rfl
  have m0 := RowL.made (L := LX) w 38 4 w.heap.size hX.len (by decide) (Nat.le_refl _)
  obtain ⟨w0, hw0⟩ : ∃ W, W = w.alloc (.cells LX.toArray 38) := ⟨_, rfl⟩
  rw [← hw0] at m0
  have s0 : w0.heap.size = w.heap.size + 1 := by rw [hw0]; simp
  have bel : Below w.heap.size w w0 := by rw [hw0]; exact (Below.refl _ _).alloc (Nat.le_refl _) _
  have m1 := RowL.made (L := uV (fun _ => 0) 20) w0 44 20 w.heap.size (uV_length _ _) (by decide) (by omega)
  rw [← hZ, s0] at m1
  have b1 : Below w0.heap.size w0 (w0.alloc (.cells Z 44)) := (Below.refl _ _).alloc (Nat.le_refl _) _
  obtain ⟨w1, hw1⟩ : ∃ W, W = w0.alloc (.cells Z 44) := ⟨_, rfl⟩
  rw [← hw1] at m1 b1
  have s1 : w1.heap.size = w.heap.size + 1 + 1 := by rw [hw1]; simp [s0]
  replace m0 := m0.below b1
  replace bel := below_on bel b1
  have m2 := RowL.made (L := uV (fun _ => 0) 4) w1 38 4 w.heap.size (uV_length _ _) (by decide) (by omega)
  rw [← hZf, s1] at m2
  have b2 : Below w1.heap.size w1 (w1.alloc (.cells Zf 38)) := (Below.refl _ _).alloc (Nat.le_refl _) _
  obtain ⟨w2, hw2⟩ : ∃ W, W = w1.alloc (.cells Zf 38) := ⟨_, rfl⟩
  rw [← hw2] at m2 b2
  replace m0 := m0.below b2
  replace m1 := m1.below b2
  replace bel := below_on bel b2
  have t2 := m2.there (o := 0) (m := L1.toArray.size) (by simp [q1.len])
  have p2 := m2.putAll (B := L1) (by rw [q1.len, uV_length])
  replace m0 := m0.kept p2.2 (by omega)
  replace m1 := m1.kept p2.2 (by omega)
  replace bel := bel.grown p2.2 bel.size (fun k hk => by cases hk; omega)
  have m2' := p2.1
  have ra := m0.all
  have rb := m2'.all
  have t1 := m1.there (o := 0) (m := LR.toArray.size) (by simp [hlen])
  have p1 := m1.putAll (B := LR) (by rw [hlen, uV_length])
  replace bel := bel.grown p1.2 bel.size (fun k hk => by cases hk; omega)
  have hld := run_loadVar_mid (P := Try.prog) _ _ 0 44 _ _ p1.1.all Try.underlying44 rfl (szLad hlen)
  have z1 := hX.sz
  have z2 := q1.sz
  have z3 := q1.sz2
  have z4 := szLad2 hlen
  have o1 := q1.one
  clear m0 m1 m2 m2' p1 p2 b1 b2 hZ hZf h1
  rw [hw2, hw1, hw0] at t2 ra rb t1 bel hld
  clear hw2 hw1 hw0 s0 s1
  clear w0 w1 w2
  go_enter Try.func25, Try.ntmps25
  go_wp2_with (first | (refine wpL_build_run rfl 38 #[(0, .const (.int .u64 1))] rfl #[(0, .int .u64 1)] (by simp [Act.eval, Act.put]) (B1 _) ?_) | (with_reducible refine wpList_store_mid rfl 38 _ _ rfl (w.heap.size + 1 + 1) 0 L1.toArray rfl rfl t2 z3 (all_oneCell_toArray o1) ?_; (try dsimp only)) | (with_reducible refine wpList_load_mid rfl 38 _ rfl w.heap.size 0 rfl LX _ ra Try.underlying38 rfl z1 ?_) | (with_reducible refine wpList_load_mid rfl 38 _ rfl (w.heap.size + 1 + 1) 0 rfl L1 _ rb Try.underlying38 rfl z2 ?_) | (refine wpL_build_run rfl 42 #[(0, .tmp 6)] rfl #[(0, .agg L1.toArray)] (by simp [Act.eval, Act.put]) (B2 _) ?_) | (refine wpL_build_run rfl 42 #[(0, .tmp 8), (1, .tmp 9)] rfl #[(0, .agg LX.toArray), (1, .agg L1.toArray)] (by simp [Act.eval, Act.put]) (B3 _) ?_) | (refine wpL_build_run rfl 44 #[(0, .tmp 5), (1, .tmp 7), (2, .tmp 10)] rfl #[(0, .agg LX.toArray), (1, .agg LP.toArray), (2, .agg LQ.toArray)] (by simp [Act.eval, Act.put]) (B4 _) ?_) | (with_reducible refine wpList_store_mid rfl 44 _ _ rfl (w.heap.size + 1) 0 LR.toArray rfl rfl t1 z4 (all_oneCell_toArray hone) ?_; (try dsimp only)))
  (try simp only [Exit.inBlock, Exit.then])
  refine bodyPost_ret (v := .agg LR.toArray) ?_ rfl ⟨rfl, bel⟩
  simp [results, asAddr, Act.put, hld]

set_option maxRecDepth 100000 in
set_option maxHeartbeats 8000000 in
theorem changed_true (LX LA LC LB LD : List Value) (w : World) (hX : Q4 LX) (hA : Q4 LA) (hC : Q4 LC) (hB : Q4 LB) (hD : Q4 LD) :
    Calls Try.prog 40 #[.agg (LadV LX LA LC LB LD).toArray, .bool true] w fun e w' => e = .returned (.agg (LadV LX LB LD LA LC).toArray) ∧ Below w.heap.size w w' := by
  have hz := (zero_of_info infoLad).1
  obtain ⟨Z20, hZ20⟩ : ∃ Z, Z = (uV (fun _ => 0) 20).toArray := ⟨_, rfl⟩
  rw [← hZ20] at hz
  have hlen0 := LadV_length hX hA hC hB hD
  obtain ⟨LA0, hL0⟩ : ∃ A, A = LadV LX LA LC LB LD := ⟨_, rfl⟩
  obtain ⟨AL, hAL⟩ : ∃ A, A = LA0.toArray := ⟨_, rfl⟩
  have hpre : AL = (LadV LX LA LC LB LD).toArray := by rw [hAL, hL0]
  obtain ⟨rl, rr, bel, sz⟩ := ladRows w hlen0 (ty := 44) (n := 20) (by decide) hpre hZ20
  rw [← hpre]
  generalize hwb : (w.alloc (.cells AL 44)).alloc (.cells Z20 44) = wb at rl rr bel sz
  have q1 := lad_bd rl hX hA hC
  have q2 := lad_ac rl hX
  have t1 := rl.there (o := 4) (m := (LB ++ LD).toArray.size) (by simp [hB.len, hD.len])
  have p1 := lad_put_ac rl hX hA hC hB hD
  replace rr := rr.kept p1.2 (by omega)
  replace bel := bel.grown p1.2 bel.size (fun k hk => by cases hk; exact Nat.le_refl _)
  have t2 := p1.1.there (o := 12) (m := (LA ++ LC).toArray.size) (by simp [hA.len, hC.len])
  have p2 := lad_put_bd p1.1 hX hB hD hB hD hA hC
  replace rr := rr.kept p2.2 (by omega)
  replace bel := bel.grown p2.2 bel.size (fun k hk => by cases hk; exact Nat.le_refl _)
  have rf := p2.1
  have y1 := szRat (rat_length hB hD)
  have y2 := szRat (rat_length hA hC)
  have y3 := szRat2 (rat_length hB hD)
  have y4 := szRat2 (rat_length hA hC)
  have y5 := rat_one hB hD
  have y6 := rat_one hA hC
  have hlen := LadV_length hX hB hD hA hC
  have hone := LadV_one hX hB hD hA hC
  obtain ⟨LR, hR⟩ : ∃ L, L = LadV LX LB LD LA LC := ⟨_, rfl⟩
  rw [← hR] at rf hlen hone ⊢
  have q3 := rf.all
  have t3 := rr.there (o := 0) (m := LR.toArray.size) (by simp [hlen])
  have p3 := rr.putAll (B := LR) (by rw [hlen, uV_length])
  replace bel := bel.grown p3.2 bel.size (fun k hk => by cases hk; omega)
  have hld := run_loadVar_mid (P := Try.prog) _ _ 0 44 _ _ p3.1.all Try.underlying44 rfl (szLad hlen)
  have z3 := szLad hlen
  have z4 := szLad2 hlen
  obtain ⟨LP, hP⟩ : ∃ L, L = LA ++ LC := ⟨_, rfl⟩
  obtain ⟨LQ, hQ⟩ : ∃ L, L = LB ++ LD := ⟨_, rfl⟩
  rw [← hQ] at q1 t1 y1 y3 y5 q3 t3 bel hld t2
  rw [← hP] at q2 t2 y2 y4 y6 q3 t3 bel hld
  clear p1 p2 hP hQ
  clear rl rr rf p3 hR hL0 hpre hAL hlen0 hlen hZ20 sz hX hA hC hB hD
  rw [← hwb] at q1 q2 t1 t2 q3 t3 bel hld
  clear hwb
  clear LA0
  clear wb LA LB LC LD LX
  go_enter Try.func40, Try.ntmps40
  go_wp2_with (first | (with_reducible refine wpList_load_mid rfl 42 _ rfl w.heap.size 12 rfl LQ _ q1 Try.underlying42 rfl y1 ?_) | (with_reducible refine wpList_load_mid rfl 42 _ rfl w.heap.size 4 rfl LP _ q2 Try.underlying42 rfl y2 ?_) | (with_reducible refine wpList_store_mid rfl 42 _ _ rfl w.heap.size 4 LQ.toArray rfl rfl t1 y3 (all_oneCell_toArray y5) ?_; (try dsimp only)) | (with_reducible refine wpList_store_mid rfl 42 _ _ rfl w.heap.size 12 LP.toArray rfl rfl t2 y4 (all_oneCell_toArray y6) ?_; (try dsimp only)) | (with_reducible refine wpList_load_mid rfl 44 _ rfl w.heap.size 0 rfl LR _ q3 Try.underlying44 rfl z3 ?_) | (with_reducible refine wpList_store_mid rfl 44 _ _ rfl (w.heap.size + 1) 0 LR.toArray rfl rfl t3 z4 (all_oneCell_toArray hone) ?_; (try dsimp only)))
  (try simp only [Exit.inBlock, Exit.then])
  refine bodyPost_ret (v := .agg LR.toArray) ?_ rfl ⟨rfl, bel⟩
  simp [results, asAddr, Act.put, hld]

set_option maxRecDepth 100000 in
set_option maxHeartbeats 8000000 in
theorem changed_false (LX LA LC LB LD : List Value) (w : World) (hX : Q4 LX) (hA : Q4 LA) (hC : Q4 LC) (hB : Q4 LB) (hD : Q4 LD) :
    Calls Try.prog 40 #[.agg (LadV LX LA LC LB LD).toArray, .bool false] w fun e w' => e = .returned (.agg (LadV LX LA LC LB LD).toArray) ∧ Below w.heap.size w w' := by
  have hz := (zero_of_info infoLad).1
  obtain ⟨Z20, hZ20⟩ : ∃ Z, Z = (uV (fun _ => 0) 20).toArray := ⟨_, rfl⟩
  rw [← hZ20] at hz
  have hlen0 := LadV_length hX hA hC hB hD
  obtain ⟨LA0, hL0⟩ : ∃ A, A = LadV LX LA LC LB LD := ⟨_, rfl⟩
  obtain ⟨AL, hAL⟩ : ∃ A, A = LA0.toArray := ⟨_, rfl⟩
  have hpre : AL = (LadV LX LA LC LB LD).toArray := by rw [hAL, hL0]
  obtain ⟨rl, rr, bel, sz⟩ := ladRows w hlen0 (ty := 44) (n := 20) (by decide) hpre hZ20
  obtain ⟨LR, hR⟩ : ∃ L, L = LadV LX LA LC LB LD := ⟨_, rfl⟩
  have hpr2 : AL = LR.toArray := by rw [hpre, hR]
  rw [← hR]
  obtain ⟨RV, hRV⟩ : ∃ v, v = Value.agg LR.toArray := ⟨_, rfl⟩
  have hre : Calls Try.prog 40 #[.agg AL, .bool false] w (fun e w' => e = .returned RV ∧ Below w.heap.size w w') → Calls Try.prog 40 #[.agg LR.toArray, .bool false] w fun e w' => e = .returned (.agg LR.toArray) ∧ Below w.heap.size w w' := fun h => by rw [hpr2, hRV] at h; exact h
  refine hre ?_
  rw [hRV]
  clear hre hRV
  generalize hwb : (w.alloc (.cells AL 44)).alloc (.cells Z20 44) = wb at rl rr bel sz
  have rf := rl
  have hlen := hlen0
  have hone := LadV_one hX hA hC hB hD
  rw [← hR] at rf hlen hone
  have q3 := rf.all
  have t3 := rr.there (o := 0) (m := LR.toArray.size) (by simp [hlen])
  have p3 := rr.putAll (B := LR) (by rw [hlen, uV_length])
  replace bel := bel.grown p3.2 bel.size (fun k hk => by cases hk; omega)
  have hld := run_loadVar_mid (P := Try.prog) _ _ 0 44 _ _ p3.1.all Try.underlying44 rfl (szLad hlen)
  have z3 := szLad hlen
  have z4 := szLad2 hlen
  clear rl rr rf p3 hR hL0 hpre hAL hlen0 hlen hZ20 sz hX hA hC hB hD hpr2
  rw [← hwb] at q3 t3 bel hld
  clear hwb
  clear LA0
  clear wb LA LB LC LD LX
  go_enter Try.func40, Try.ntmps40
  go_wp2_with (first | (with_reducible refine wpList_load_mid rfl 44 _ rfl w.heap.size 0 rfl LR _ q3 Try.underlying44 rfl z3 ?_) | (with_reducible refine wpList_store_mid rfl 44 _ _ rfl (w.heap.size + 1) 0 LR.toArray rfl rfl t3 z4 (all_oneCell_toArray hone) ?_; (try dsimp only)))
  (try simp only [Exit.inBlock, Exit.then])
  refine bodyPost_ret (v := .agg LR.toArray) ?_ rfl ⟨rfl, bel⟩
  simp [results, asAddr, Act.put, hld]


end Go.Proofs.Ytghoibggmddkmao
