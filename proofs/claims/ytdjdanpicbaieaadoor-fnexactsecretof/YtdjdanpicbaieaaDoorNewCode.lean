/-
  What the program's newCode answers: two hashes that have taken the key's marked blocks. Conditions: at most 4000 bytes, bytes all; the table of the rounds' numbers is as its text says.
-/
import Derived.Test.YtdjdanpicbaieaaDoorCodeOf
namespace Go.Proofs.YtdjdanpicbaieaaDoor
open Go.RowKit

def zCode : List Value := hashC (List.replicate 8 0) zeroL zero64 ++ hashC (List.replicate 8 0) zeroL zero64
def aCode : List Value := hashC startN zeroL zero64 ++ hashC startN zeroL zero64
theorem zCode_length : zCode.length = 272 := by rw [zCode, List.length_append, hashC_length (by simp) (by simp [zeroL]) (by simp [zero64])]
theorem aCode_length : aCode.length = 272 := by rw [aCode, List.length_append, hashC_length (by rfl) (by simp [zeroL]) (by simp [zero64])]
theorem zCode_made (w : World) (lo : Nat) (hlo : lo ≤ w.heap.size) :
    (w.alloc (.cells zCode.toArray 85)).ownsRow lo 85 1 (.slice (some ⟨w.heap.size, 0, none⟩) 272 272) 272 zCode := by
  refine ⟨by rw [zCode_length], .inr ⟨w.heap.size, 272, _, rfl, hlo, heap_alloc_new w _, Nat.le_refl _, by unfold maxLen; omega, by simp [zCode_length], ?_⟩⟩
  rw [List.take_of_length_le (by simp [zCode_length])]
theorem code_put {w : World} {lo g : Nat} {A B : List Value} (h : w.ownsRow lo 85 1 (.slice (some ⟨g, 0, none⟩) 272 272) 272 A) (hB : B.length = 272) :
    (w.setCells g 0 B).ownsRow lo 85 1 (.slice (some ⟨g, 0, none⟩) 272 272) 272 B ∧ w.grownBy (w.setCells g 0 B) (some g) := by
  have h5 := owns_put B 0 w _ h
  have e := putL_mid [] A [] B (by rw [hB]; have := h.1; omega)
  simp only [List.append_nil, List.nil_append, List.length_nil] at e
  rw [e] at h5
  exact h5
theorem aCode_one : ∀ v ∈ aCode, v.oneCell' = true := by
  intro v hv
  rcases List.mem_append.1 hv with h | h
  · exact hashC_one _ _ _ v h
  · exact hashC_one _ _ _ v h
theorem build_code (w : World) : (Instr.build 85 #[(0, .agg (hashC startN zeroL zero64).toArray), (1, .agg (hashC startN zeroL zero64).toArray)]).run Tryd.prog w = .ok (.agg aCode.toArray) w :=
  run_build w 85 _ _ (by kernel_rfl)
theorem wpList_build_run {P : Program} {ops : Array Oper} {rest : List Oper} {o : Oper} {a : Act} {w : World} {Q : Exit → Act → World → Prop} (hgd : o.guard = none) (t : TypeId) (parts : Array (Nat × Operand)) (ho : o.op = .build t parts)
    (vs : Array (Nat × Value)) (hvs : (parts.map fun (i, x) => (i, a.eval x)) = vs) {v : Value} (hr : (Instr.build t vs).run P w = .ok v w) (h : wpList P ops Q rest (a.put o.dst v) w) : wpList P ops Q (o :: rest) a w :=
  wpList_plain hgd fun _ hK => by
    unfold Oper.wp execOp
    subst hvs
    simp only [ho, Sem.run_bind, Sem.run_pure, Result.andThen_ok, hr]
    exact hK _ _ h
theorem newHash_start (p : Option Addr) (c : Nat) (w : World) (h : IntsIn w p 8 startL) :
    Calls Tryd.prog 77 #[.slice p 8 c] w fun e w' => e = .returned (.agg (hashC startN zeroL zero64).toArray) ∧ Below w.heap.size w w' := by
  have h := newHash_any p c startL w rfl h
  rw [show wordsN startL = startN from wordsN_nats (by decide)] at h
  exact h

set_option maxRecDepth 100000 in
set_option maxHeartbeats 400000 in
theorem newCode_small (p : Option Addr) (n c : Nat) (xs : List Int) (w : World) (hn : n ≤ 64) (hx : xs.length = n) (h : BytesIn w p n xs) (_hb : ∀ x ∈ xs, 0 ≤ x ∧ x < 256) (hKey : KeysIs w) :
    Calls Tryd.prog 58 #[.slice p n c] w fun e w' => e = .returned (.agg (codeC (kL xs)).toArray) ∧ Below w.heap.size w w' := by
  have hkk : kL xs = xs := if_neg (by omega)
  rw [hkk]
  clear hkk
  have c1 : ¬ (64 : Int) < (n : Int) := by omega
  have hz : Hid ((Tryd.prog.info? 85).map (fun i => (i.zero, i.size)) = some (some (.agg zCode.toArray), 272)) := infoCode
  have hzv := (zero_of_info hz.out).1
  have hsz0 := (zero_of_info hz.out).2
  have bC := build_code
  have m1 := zCode_made
  have CN := newHash_start
  have hA1 := aCode_one
  have hAl := aCode_length
  have hA2 : Hid (aCode = hashC startN zeroL zero64 ++ hashC startN zeroL zero64) := rfl
  have hlo := keys_lt hKey
  have bz : Below w.heap.size w (w.alloc (.cells zCode.toArray 85)) := (Below.refl _ _).alloc (Nat.le_refl _) _
  have oz := m1 w w.heap.size (Nat.le_refl _)
  obtain ⟨H0, hH0⟩ : ∃ H0, H0 = (hashC startN zeroL zero64).toArray := ⟨_, rfl⟩
  rw [← hH0] at CN
  simp only [← hH0] at bC
  obtain ⟨Z, hZ⟩ : ∃ Z, Z = zCode.toArray := ⟨_, rfl⟩
  rw [← hZ] at hzv oz bz
  simp only [← hZ] at m1
  generalize aCode = AC at bC hA1 hAl hA2
  have hzl := zCode_length
  generalize zCode = ZC at hz oz m1 hzl
  clear hz hH0 hZ
  go_enter Tryd.func58, Tryd.ntmps58
  have ik := in_below h bz
  have ok := oz
  have bk := bz
  have hnk := hn
  have hxk := hx
  go_wp2_with (fail)
  generalize w.alloc (.cells Z 85) = wk at ik ok bk ⊢
  clear oz bz h
  refine (implStart_any _).mono ?_
  rintro e w1 ⟨p1, c1, rfl, r1, b1⟩
  go_wp2_with (fail)
  refine (CN _ _ _ r1.ints).mono ?_
  rintro e w2 ⟨rfl, b2⟩
  go_wp2_with (fail)
  refine (implStart_any _).mono ?_
  rintro e w3 ⟨p3, c3, rfl, r3, b3⟩
  go_wp2_with (fail)
  refine (CN _ _ _ r3.ints).mono ?_
  rintro e w4 ⟨rfl, b4⟩
  have B4 := below_on (below_on (below_on b1 b2) b3) b4
  clear r1 r3 b1 b2 b3 b4 CN
  have i4 := in_below ik B4
  have o4 := owns_below ok B4
  have bel4 := below_on bk B4
  clear ik ok bk B4
  have oa := m1 w4 w.heap.size bel4.size
  have ba : Below w4.heap.size w4 (w4.alloc (.cells Z 85)) := (Below.refl _ _).alloc (Nat.le_refl _) _
  have hth : (w4.alloc (.cells Z 85)).there w4.heap.size 0 AC.toArray.size := by rw [show AC.toArray.size = 272 by simpa using hAl]; exact owns_there oa
  have hszA : (Tryd.prog.info? 85).map (·.size) = some AC.toArray.size := by rw [show AC.toArray.size = 272 by simpa using hAl]; exact hsz0
  have hp := code_put oa hAl
  have bel5 : Below w.heap.size w ((w4.alloc (.cells Z 85)).setCells w4.heap.size 0 AC) := (below_on bel4 ba).grown hp.2 (below_on bel4 ba).size (fun k hk => by cases hk; exact bel4.size)
  have b45 : Below w4.heap.size w4 ((w4.alloc (.cells Z 85)).setCells w4.heap.size 0 AC) := ba.grown hp.2 ba.size (fun k hk => by cases hk; exact Nat.le_refl _)
  have i5 := in_below i4 b45
  have o5 := owns_below o4 b45
  have hc5 := hp.1
  have hg4 : w.heap.size < w4.heap.size := (o4.lt w.heap.size rfl).2
  have hfar : Hid (∀ bb oo, 0 < n → p = some ⟨bb, oo, none⟩ → bb < w4.heap.size) := fun bb oo hpos e => by
    obtain ⟨b', o', e1, e2⟩ := i4 hpos
    rw [e1] at e
    simp only [Option.some.injEq, Addr.mk.injEq, and_true] at e
    have := World.block_lt_of_cell? w4 ⟨b', o' + 0, none⟩ (e2 0 hpos)
    rw [← e.1]
    exact this
  clear hp oa ba b45 bel4 i4 o4
  go_wp2_with (first | (refine wpList_build_run rfl 85 #[(0, .tmp 10), (1, .tmp 12)] rfl #[(0, .agg H0), (1, .agg H0)] (by simp [Act.eval]) (bC _) ?_) | (refine wpList_store_mid rfl 85 _ _ rfl w4.heap.size 0 AC.toArray rfl rfl hth hszA (all_oneCell_toArray hA1) ?_))
  clear hth hszA bC hzv m1
  generalize (w4.alloc (.cells Z 85)).setCells w4.heap.size 0 AC = w5 at hc5 bel5 i5 o5 ⊢
  generalize w4.heap.size = g at hc5 hg4 hfar ⊢
  refine (markedKey_any p n _ xs 54 w5 hn hx i5).mono ?_
  rintro e w6 ⟨rfl, b6⟩
  rw [hA2.out] at hc5
  have h6 := code_first (by rfl) (by simp [zeroL]) (by simp [zero64]) (owns_below hc5 b6)
  rw [← zeroL_spread] at h6
  have bel6 := below_on bel5 b6
  have CT := take_any _ _ _ _ _ w.heap.size g startN zeroL (markL xs 54) w6 startN_lt zeroL_byte (markL_length (by omega) 54) (markL_byte xs 54) h6 (keys_below hKey bel6) hlo
  have i6 := in_below i5 b6
  have o6 := owns_below o5 b6
  clear h6 b6 hc5 i5 o5 bel5 hA1 hAl hA2
  go_wp2_with (fail)
  refine CT.mono ?_
  rintro e w7 ⟨rfl, h7, g7⟩
  clear CT
  have bel7 : Below w.heap.size w w7 := bel6.grown g7 bel6.size (fun k hk => by cases hk; omega)
  have i7 : BytesIn w7 p n xs := fun hpos => by
    obtain ⟨bb, oo, e1, e2⟩ := i6 hpos
    have hbg : bb < g := hfar.out bb oo hpos e1
    exact ⟨bb, oo, e1, fun i hi => (cell_grown (p := ⟨bb, oo + i, none⟩) g7 (World.block_lt_of_cell? w6 ⟨bb, oo + i, none⟩ (e2 i hi)) (show bb ≠ g by omega)).trans (e2 i hi)⟩
  have o7 := o6.kept g7 (.inr (by simp [Value.ownBlock]; omega))
  clear i6 o6 g7 bel6
  go_wp2_with (fail)
  refine (markedKey_any p n _ xs 92 w7 hn hx i7).mono ?_
  rintro e w8 ⟨rfl, b8⟩
  have h8 := code_second (blockN_length _ _) (markL_length (by omega) 54) (spreadN_length (wsOf_length _)) (by rfl) (by simp [zeroL]) (spreadN_length (wsOf_length _)) (owns_below h7.rowFirst b8)
  have bel8 := below_on bel7 b8
  have CT := take_any _ _ _ _ _ w.heap.size g startN zeroL (markL xs 92) w8 startN_lt zeroL_byte (markL_length (by omega) 92) (markL_byte xs 92) h8 (keys_below hKey bel8) hlo
  have o8 := owns_below o7 b8
  clear h8 b8 h7 i7 o7 bel7 hfar
  go_wp2_with (fail)
  refine CT.mono ?_
  rintro e w9 ⟨rfl, h9, g9⟩
  clear CT
  have bel9 : Below w.heap.size w w9 := bel8.grown g9 bel8.size (fun k hk => by cases hk; omega)
  have o9 := o8.kept g9 (.inr (by simp [Value.ownBlock]; omega))
  have row9 := h9.rowSecond
  have hCl := codeC_length (k := xs) (by omega)
  have hC1 := codeC_one xs
  have hCe : hashC (blockN (wsOf (markL xs 54)) startN) (markL xs 54) (spreadN (wsOf (markL xs 54))) ++ hashC (blockN (wsOf (markL xs 92)) startN) (markL xs 92) (spreadN (wsOf (markL xs 92))) = codeC xs := rfl
  rw [hCe] at row9
  obtain ⟨Cs, hCs⟩ : ∃ Cs, Cs = codeC xs := ⟨_, rfl⟩
  rw [← hCs] at row9 hCl hC1
  replace hCs : Hid (Cs = codeC xs) := hCs
  clear h9 g9 bel8 o8 hCe
  have hra := owns_range row9
  have hszC : (Tryd.prog.info? 85).map (·.size) = some Cs.length := by rw [hCl]; exact hsz0
  have hszC2 : (Tryd.prog.info? 85).map (·.size) = some Cs.toArray.size := by simpa using hszC
  have hth : w9.there w.heap.size 0 Cs.toArray.size := by rw [show Cs.toArray.size = 272 by simpa using hCl]; exact owns_there o9
  have hp := code_put o9 hCl
  have bfin : Below w.heap.size w (w9.setCells w.heap.size 0 Cs) := bel9.grown hp.2 bel9.size (fun k hk => by cases hk; exact Nat.le_refl _)
  have hld := run_loadVar_mid (P := Tryd.prog) _ w.heap.size 0 85 _ _ (owns_range hp.1) Tryd.underlying85 rfl hszC
  clear hp o9 row9
  go_wp2_with (first | (refine wpList_load_mid rfl 85 _ rfl g 0 rfl Cs _ hra Tryd.underlying85 rfl hszC ?_) | (refine wpList_store_mid rfl 85 _ _ rfl w.heap.size 0 Cs.toArray rfl rfl hth hszC2 (all_oneCell_toArray hC1) ?_))
  (try simp only [Exit.inBlock, Exit.then])
  refine bodyPost_ret (v := .agg Cs.toArray) ?_ rfl ⟨by rw [hCs.out], bfin⟩
  simp [results, asAddr, Act.put, hld]

set_option maxRecDepth 100000 in
set_option maxHeartbeats 400000 in
theorem newCode_big (p : Option Addr) (n c : Nat) (xs : List Int) (w : World) (hn : 64 < n) (hn2 : n ≤ 4000) (hx : xs.length = n) (h : BytesIn w p n xs) (hb : ∀ x ∈ xs, 0 ≤ x ∧ x < 256) (hKey : KeysIs w) :
    Calls Tryd.prog 58 #[.slice p n c] w fun e w' => e = .returned (.agg (codeC (kL xs)).toArray) ∧ Below w.heap.size w w' := by
  have hkk : kL xs = hashL xs := if_pos (by omega)
  rw [hkk]
  clear hkk
  have c1 : (64 : Int) < (n : Int) := by omega
  have hxk : (hashL xs).length = 32 := hashL_length (by omega)
  have hnk : 32 ≤ 64 := by decide
  have hz : Hid ((Tryd.prog.info? 85).map (fun i => (i.zero, i.size)) = some (some (.agg zCode.toArray), 272)) := infoCode
  have hzv := (zero_of_info hz.out).1
  have hsz0 := (zero_of_info hz.out).2
  have bC := build_code
  have m1 := zCode_made
  have CN := newHash_start
  have hA1 := aCode_one
  have hAl := aCode_length
  have hA2 : Hid (aCode = hashC startN zeroL zero64 ++ hashC startN zeroL zero64) := rfl
  have hlo := keys_lt hKey
  have bz : Below w.heap.size w (w.alloc (.cells zCode.toArray 85)) := (Below.refl _ _).alloc (Nat.le_refl _) _
  have oz := m1 w w.heap.size (Nat.le_refl _)
  obtain ⟨H0, hH0⟩ : ∃ H0, H0 = (hashC startN zeroL zero64).toArray := ⟨_, rfl⟩
  rw [← hH0] at CN
  simp only [← hH0] at bC
  obtain ⟨Z, hZ⟩ : ∃ Z, Z = zCode.toArray := ⟨_, rfl⟩
  rw [← hZ] at hzv oz bz
  simp only [← hZ] at m1
  generalize aCode = AC at bC hA1 hAl hA2
  have hzl := zCode_length
  generalize zCode = ZC at hz oz m1 hzl
  clear hz hH0 hZ
  go_enter Tryd.func58, Tryd.ntmps58
  go_wp2_with (fail)
  refine (implHash_yes p n _ xs _ hn2 hx (in_below h bz) hb (keys_below hKey bz)).mono ?_
  rintro e wk ⟨pk, ck, rfl, rk, bk0⟩
  have hHe : bytesL true (natsL (foldN (padL xs) (padN n / 64))) = hashL xs := by unfold hashL; rw [hx, if_pos hn2]
  rw [hHe] at rk
  have ik := rk.bytes
  have ok := owns_below oz bk0
  have bk := below_on bz bk0
  clear oz bz h hHe rk bk0
  obtain ⟨k, hkd⟩ : ∃ k, k = hashL xs := ⟨_, rfl⟩
  rw [← hkd] at hxk ik
  replace hkd : Hid (k = hashL xs) := hkd
  go_wp2_with (fail)
  refine (implStart_any _).mono ?_
  rintro e w1 ⟨p1, c1, rfl, r1, b1⟩
  go_wp2_with (fail)
  refine (CN _ _ _ r1.ints).mono ?_
  rintro e w2 ⟨rfl, b2⟩
  go_wp2_with (fail)
  refine (implStart_any _).mono ?_
  rintro e w3 ⟨p3, c3, rfl, r3, b3⟩
  go_wp2_with (fail)
  refine (CN _ _ _ r3.ints).mono ?_
  rintro e w4 ⟨rfl, b4⟩
  have B4 := below_on (below_on (below_on b1 b2) b3) b4
  clear r1 r3 b1 b2 b3 b4 CN
  have i4 := in_below ik B4
  have o4 := owns_below ok B4
  have bel4 := below_on bk B4
  clear ik ok bk B4
  have oa := m1 w4 w.heap.size bel4.size
  have ba : Below w4.heap.size w4 (w4.alloc (.cells Z 85)) := (Below.refl _ _).alloc (Nat.le_refl _) _
  have hth : (w4.alloc (.cells Z 85)).there w4.heap.size 0 AC.toArray.size := by rw [show AC.toArray.size = 272 by simpa using hAl]; exact owns_there oa
  have hszA : (Tryd.prog.info? 85).map (·.size) = some AC.toArray.size := by rw [show AC.toArray.size = 272 by simpa using hAl]; exact hsz0
  have hp := code_put oa hAl
  have bel5 : Below w.heap.size w ((w4.alloc (.cells Z 85)).setCells w4.heap.size 0 AC) := (below_on bel4 ba).grown hp.2 (below_on bel4 ba).size (fun k hk => by cases hk; exact bel4.size)
  have b45 : Below w4.heap.size w4 ((w4.alloc (.cells Z 85)).setCells w4.heap.size 0 AC) := ba.grown hp.2 ba.size (fun k hk => by cases hk; exact Nat.le_refl _)
  have i5 := in_below i4 b45
  have o5 := owns_below o4 b45
  have hc5 := hp.1
  have hg4 : w.heap.size < w4.heap.size := (o4.lt w.heap.size rfl).2
  have hfar : Hid (∀ bb oo, 0 < 32 → pk = some ⟨bb, oo, none⟩ → bb < w4.heap.size) := fun bb oo hpos e => by
    obtain ⟨b', o', e1, e2⟩ := i4 hpos
    rw [e1] at e
    simp only [Option.some.injEq, Addr.mk.injEq, and_true] at e
    have := World.block_lt_of_cell? w4 ⟨b', o' + 0, none⟩ (e2 0 hpos)
    rw [← e.1]
    exact this
  clear hp oa ba b45 bel4 i4 o4
  go_wp2_with (first | (refine wpList_build_run rfl 85 #[(0, .tmp 10), (1, .tmp 12)] rfl #[(0, .agg H0), (1, .agg H0)] (by simp [Act.eval]) (bC _) ?_) | (refine wpList_store_mid rfl 85 _ _ rfl w4.heap.size 0 AC.toArray rfl rfl hth hszA (all_oneCell_toArray hA1) ?_))
  clear hth hszA bC hzv m1
  generalize (w4.alloc (.cells Z 85)).setCells w4.heap.size 0 AC = w5 at hc5 bel5 i5 o5 ⊢
  generalize w4.heap.size = g at hc5 hg4 hfar ⊢
  refine (markedKey_any pk 32 _ k 54 w5 hnk hxk i5).mono ?_
  rintro e w6 ⟨rfl, b6⟩
  rw [hA2.out] at hc5
  have h6 := code_first (by rfl) (by simp [zeroL]) (by simp [zero64]) (owns_below hc5 b6)
  rw [← zeroL_spread] at h6
  have bel6 := below_on bel5 b6
  have CT := take_any _ _ _ _ _ w.heap.size g startN zeroL (markL k 54) w6 startN_lt zeroL_byte (markL_length (by omega) 54) (markL_byte k 54) h6 (keys_below hKey bel6) hlo
  have i6 := in_below i5 b6
  have o6 := owns_below o5 b6
  clear h6 b6 hc5 i5 o5 bel5 hA1 hAl hA2
  go_wp2_with (fail)
  refine CT.mono ?_
  rintro e w7 ⟨rfl, h7, g7⟩
  clear CT
  have bel7 : Below w.heap.size w w7 := bel6.grown g7 bel6.size (fun k hk => by cases hk; omega)
  have i7 : BytesIn w7 pk 32 k := fun hpos => by
    obtain ⟨bb, oo, e1, e2⟩ := i6 hpos
    have hbg : bb < g := hfar.out bb oo hpos e1
    exact ⟨bb, oo, e1, fun i hi => (cell_grown (p := ⟨bb, oo + i, none⟩) g7 (World.block_lt_of_cell? w6 ⟨bb, oo + i, none⟩ (e2 i hi)) (show bb ≠ g by omega)).trans (e2 i hi)⟩
  have o7 := o6.kept g7 (.inr (by simp [Value.ownBlock]; omega))
  clear i6 o6 g7 bel6
  go_wp2_with (fail)
  refine (markedKey_any pk 32 _ k 92 w7 hnk hxk i7).mono ?_
  rintro e w8 ⟨rfl, b8⟩
  have h8 := code_second (blockN_length _ _) (markL_length (by omega) 54) (spreadN_length (wsOf_length _)) (by rfl) (by simp [zeroL]) (spreadN_length (wsOf_length _)) (owns_below h7.rowFirst b8)
  have bel8 := below_on bel7 b8
  have CT := take_any _ _ _ _ _ w.heap.size g startN zeroL (markL k 92) w8 startN_lt zeroL_byte (markL_length (by omega) 92) (markL_byte k 92) h8 (keys_below hKey bel8) hlo
  have o8 := owns_below o7 b8
  clear h8 b8 h7 i7 o7 bel7 hfar
  go_wp2_with (fail)
  refine CT.mono ?_
  rintro e w9 ⟨rfl, h9, g9⟩
  clear CT
  have bel9 : Below w.heap.size w w9 := bel8.grown g9 bel8.size (fun k hk => by cases hk; omega)
  have o9 := o8.kept g9 (.inr (by simp [Value.ownBlock]; omega))
  have row9 := h9.rowSecond
  have hCl := codeC_length (k := k) (by omega)
  have hC1 := codeC_one k
  have hCe : hashC (blockN (wsOf (markL k 54)) startN) (markL k 54) (spreadN (wsOf (markL k 54))) ++ hashC (blockN (wsOf (markL k 92)) startN) (markL k 92) (spreadN (wsOf (markL k 92))) = codeC k := rfl
  rw [hCe] at row9
  obtain ⟨Cs, hCs⟩ : ∃ Cs, Cs = codeC k := ⟨_, rfl⟩
  rw [← hCs] at row9 hCl hC1
  replace hCs : Hid (Cs = codeC k) := hCs
  clear h9 g9 bel8 o8 hCe
  have hra := owns_range row9
  have hszC : (Tryd.prog.info? 85).map (·.size) = some Cs.length := by rw [hCl]; exact hsz0
  have hszC2 : (Tryd.prog.info? 85).map (·.size) = some Cs.toArray.size := by simpa using hszC
  have hth : w9.there w.heap.size 0 Cs.toArray.size := by rw [show Cs.toArray.size = 272 by simpa using hCl]; exact owns_there o9
  have hp := code_put o9 hCl
  have bfin : Below w.heap.size w (w9.setCells w.heap.size 0 Cs) := bel9.grown hp.2 bel9.size (fun k hk => by cases hk; exact Nat.le_refl _)
  have hld := run_loadVar_mid (P := Tryd.prog) _ w.heap.size 0 85 _ _ (owns_range hp.1) Tryd.underlying85 rfl hszC
  clear hp o9 row9
  go_wp2_with (first | (refine wpList_load_mid rfl 85 _ rfl g 0 rfl Cs _ hra Tryd.underlying85 rfl hszC ?_) | (refine wpList_store_mid rfl 85 _ _ rfl w.heap.size 0 Cs.toArray rfl rfl hth hszC2 (all_oneCell_toArray hC1) ?_))
  (try simp only [Exit.inBlock, Exit.then])
  refine bodyPost_ret (v := .agg Cs.toArray) ?_ rfl ⟨by rw [hCs.out, hkd.out], bfin⟩
  simp [results, asAddr, Act.put, hld]

theorem newCode_any (p : Option Addr) (n c : Nat) (xs : List Int) (w : World) (hn : n ≤ 4000) (hx : xs.length = n) (h : BytesIn w p n xs) (hb : ∀ x ∈ xs, 0 ≤ x ∧ x < 256) (hKey : KeysIs w) :
    Calls Tryd.prog 58 #[.slice p n c] w fun e w' => e = .returned (.agg (codeC (kL xs)).toArray) ∧ Below w.heap.size w w' := by
  by_cases h64 : n ≤ 64
  · exact newCode_small p n c xs w h64 hx h hb hKey
  · exact newCode_big p n c xs w (by omega) hn hx h hb hKey

end Go.Proofs.YtdjdanpicbaieaaDoor
