/-
  A part of the proof.
-/
import Derived.Test.YtnpffnhiefgglaaGreatDoorParw16
import Derived.Test.YtnpffnhiefgglaaGreatDoorParw35
import Derived.Test.YtnpffnhiefgglaaGreatDoorParw32
import Derived.Test.YtnpffnhiefgglaaGreatDoorParw33
import Derived.Test.YtnpffnhiefgglaaGreatDoorParw34
import Derived.ChangeKeysEq
namespace Go.Proofs.YtnpffnhiefgglaaGreatDoor
open Go.RowKit
set_option maxRecDepth 100000
def nnZ (n : Int) : Int := if 0 < n then n else 0
theorem nnZ_range {n : Int} (h : n ≤ 9223372036854775807) : 0 ≤ nnZ n ∧ nnZ n ≤ 9223372036854775807 := by
  unfold nnZ
  split <;> omega
theorem at_getD {l : List Int} {j : Nat} (h : j < l.length) : l[j]? = some (l.getD j 0) := by
  rw [List.getD_eq_getElem?_getD, List.getElem?_eq_getElem h, Option.getD_some]
theorem numB_small {z : Int} (h0 : 0 ≤ z) (h1 : z ≤ 9223372036854775807) : numB z = littleL z 8 ++ List.replicate 24 0 := by
  have l1 := numB_length z
  have l2 := littleL_length z 8
  apply List.ext_getElem?
  intro j
  by_cases hj : j < 32
  · rw [at_getD (l := numB z) (by omega), numB_at z j hj]
    by_cases h8 : j < 8
    · rw [List.getElem?_append_left (by omega), at_getD (l := littleL z 8) (by omega), littleL_getD z 8 j h8]
      simp
    · rw [List.getElem?_append_right (by omega), List.getElem?_replicate, if_pos (by omega)]
      have hp : (256 : Int) ^ 8 ≤ 256 ^ j := by
        obtain ⟨r, rfl⟩ : ∃ r, j = 8 + r := ⟨j - 8, by omega⟩
        rw [Int.pow_add]
        have h2 : (0 : Int) < 256 ^ r := Int.pow_pos (by decide)
        have : (256 : Int) ^ 8 * 1 ≤ 256 ^ 8 * 256 ^ r := Int.mul_le_mul_of_nonneg_left (by omega) (by decide)
        omega
      have h8' : (256 : Int) ^ 8 = 18446744073709551616 := by decide
      rw [Int.ediv_eq_zero_of_lt h0 (by omega)]
      rfl
  · rw [List.getElem?_eq_none (by omega), List.getElem?_eq_none (by simp; omega)]
def lenV (v : Value) : Nat := match v with | .slice _ n _ => n | _ => 0
theorem l1Max_nn (n : Int) (w : World) : Calls Tryz.prog 63 #[.int .i64 n, .int .i64 0] w fun e w' => e = .returned (.int .i64 (nnZ n)) ∧ w' = w := by
  unfold nnZ
  by_cases h : 0 < n
  · rw [if_pos h]
    go_enter Tryz.func63, Tryz.ntmps63
    go_wp2
    go_ret
    exact ⟨rfl, rfl⟩
  · rw [if_neg h]
    go_enter Tryz.func63, Tryz.ntmps63
    go_wp2
    go_ret
    exact ⟨rfl, rfl⟩
set_option maxHeartbeats 4000000 in
theorem specFieldNum_any (n : Int) (w : World) (h63 : n ≤ 9223372036854775807) :
    Calls Tryz.prog 65 #[.int .i64 n] w fun e w' => ∃ p' c', e = .returned (.slice p' 32 c') ∧ Own 5 w' w.heap.size w'.heap.size (.slice p' 32 c') 32 (numB (nnZ n)) ∧ Below w.heap.size w w' := by
  obtain ⟨i0, hi, hz0, hz1, hz2⟩ := info_parts infoByte
  have hr := nnZ_range h63
  have CM := fun X => l1Max_nn n X
  have CL := fun X => specLittle_yes (nnZ n) 8 X hr.1 hr.2 (by decide) (by decide)
  have hll := littleL_length (nnZ n) 8
  have hS : Hid (∀ k, littleL (nnZ n) 8 ++ List.replicate k 0 ++ [0] = littleL (nnZ n) 8 ++ List.replicate (k + 1) 0) := fun k => by
    rw [List.append_assoc, ← List.replicate_succ']
  have hE : Hid (numB (nnZ n) = littleL (nnZ n) 8 ++ List.replicate 24 0) := numB_small hr.1 hr.2
  generalize numB (nnZ n) = D at hE ⊢
  generalize littleL (nnZ n) 8 = ys at CL hll hS hE
  generalize nnZ n = z at CM CL hr
  have hown0 : (w.alloc (.cells #[] 5)).ownsRow w.heap.size 5 1 (.slice (some ⟨w.heap.size, 0, none⟩) 0 0) 0 (([] : List Int).map (Value.int .u8)) := World.ownsRow_made w #[] 0 (Nat.le_refl _) (by unfold maxLen; omega) rfl
  have hb0 : Below w.heap.size w (w.alloc (.cells #[] 5)) := (Below.refl _ _).alloc (Nat.le_refl _) _
  clear hr h63
  go_enter Tryz.func65, Tryz.ntmps65
  go_wp2_with (fail)
  refine (CM _).mono ?_
  rintro e w1 ⟨rfl, rfl⟩
  go_wp2_with (fail)
  refine (CL _).mono ?_
  rintro e w2 ⟨p2, c2, rfl, o2, b2⟩
  have hown1 := owns_below hown0 b2
  have hb1 := below_on hb0 b2
  have hs1 := hb1.size
  have hin := o2.bytes
  clear CM CL hown0 hb0 b2 o2
  go_wp2_with (at_builtin; refine list_spread hi hz0 hz1 hz2 (.tmp 4) (.tmp 7) 22 Tryz.underlying22 hown1 hin hll (by decide) (by decide) (by decide) hs1 (by rfl) (by rfl) (by rfl) (by rfl) ?_; intro g cap w3 ho hg hb)
  have hbw : Below w.heap.size w w3 := hb1.trans hb
  clear hg hown1 hin hb hb1 hs1
  go_loopw [3] (fun v wr => ∃ k : Nat, k ≤ 24 ∧ wr.ownsRow w.heap.size 5 1 v (8 + k) ((ys ++ List.replicate k 0).map (Value.int .u8)) ∧ Below w.heap.size w wr)
    (fun v _ => 32 - lenV v)
  case atStart => exact ⟨0, by omega, by simpa using ho, hbw⟩
  case round =>
    clear ho hbw
    obtain ⟨k, hk, hown, hbel⟩ := hrel
    have hsz := hbel.size
    obtain ⟨p', c', hv⟩ := owns_form hown
    subst hv
    by_cases hlt : k < 24
    · have hlt' : ((8 + k : Nat) : Int) < 32 := by omega
      have HN := hS.out k
      go_wp2_with (at_builtin; refine list_push hi hz0 hz1 hz2 (.tmp 12) (.tmp 13) 22 Tryz.underlying22 _ hown (by omega) hsz (by rfl) (by rfl) (by rfl) (by rfl) ?_; intro g1 cap1 w4 ho1 hb1; rw [HN] at ho1)
      go_roundw
      case rel => exact ⟨k + 1, by omega, ho1, hbel.trans hb1⟩
      case measure => simp [lenV]; omega
    · obtain rfl : k = 24 := by omega
      have hnl : ¬ (((8 + 24 : Nat)) : Int) < 32 := by omega
      rw [← hE.out] at hown
      go_wp2
      go_ret
      exact ⟨_, _, rfl, .of hown, hbel⟩
set_option maxHeartbeats 4000000 in
theorem implFieldNum_any (n : Int) (w : World) (h63 : n ≤ 9223372036854775807) :
    Calls Tryz.prog 61 #[.int .i64 n] w fun e w' => ∃ p' c', e = .returned (.slice p' 32 c') ∧ Own 5 w' w.heap.size w'.heap.size (.slice p' 32 c') 32 (numB (nnZ n)) ∧ Below w.heap.size w w' := by
  have hr := nnZ_range h63
  have CB := fun X => bytesU_any (nnZ n) X
  have hb : ∀ w, (Instr.build 112 #[(0, .int .u64 (nnZ n))]).run Tryz.prog w = .ok (.agg (uV (numU (nnZ n)) 4).toArray) w := fun w => by
    have e : uV (numU (nnZ n)) 4 = uV (fun k => if k = 0 then nnZ n else 0) 4 := uV_congr fun i _ => num_one hr.1 (by unfold bU; omega) i
    rw [e]
    exact run_build w 112 _ _ (by kernel_rfl)
  unfold uP at CB
  have hmx : max n 0 = nnZ n := by unfold nnZ; split <;> omega
  have hmx' : (if n ≤ 0 then 0 else n) = nnZ n := by unfold nnZ; split <;> split <;> omega
  generalize numB (nnZ n) = D at CB ⊢
  obtain ⟨z, hz⟩ : ∃ z, z = nnZ n := ⟨_, rfl⟩
  rw [← hz] at hr CB hb hmx hmx'
  have ez : z % 18446744073709551616 = z := by omega
  replace hz : Hid (z = if 0 < n then n else 0) := hz
  by_cases h0 : 0 < n
  · have hzn : z = n := by rw [hz.out, if_pos h0]
    subst hzn
    clear hz hmx hmx' h63
    go_enter Tryz.func61, Tryz.ntmps61
    go_wp2_with (refine wpList_build_run rfl 112 #[(0, .tmp 5)] rfl #[(0, .int .u64 z)] (by simp [Act.eval]) (hb _) ?_)
    refine (CB _).mono ?_
    rintro e w1 ⟨p1, rfl, o1, b1⟩
    go_wp2_with (fail)
    go_ret
    exact ⟨_, _, rfl, o1, b1⟩
  · have hzn : z = 0 := by rw [hz.out, if_neg h0]
    subst hzn
    clear hz hmx hmx' h63
    by_cases h1 : n = 0
    · subst h1
      go_enter Tryz.func61, Tryz.ntmps61
      go_wp2_with (refine wpList_build_run rfl 112 #[(0, .tmp 5)] rfl #[(0, .int .u64 0)] (by simp [Act.eval]) (hb _) ?_)
      refine (CB _).mono ?_
      rintro e w1 ⟨p1, rfl, o1, b1⟩
      go_wp2_with (fail)
      go_ret
      exact ⟨_, _, rfl, o1, b1⟩
    · have h2 : n < 0 := by omega
      have h3 : ¬ 0 ≤ n := by omega
      go_enter Tryz.func61, Tryz.ntmps61
      go_wp2_with (refine wpList_build_run rfl 112 #[(0, .tmp 5)] rfl #[(0, .int .u64 0)] (by simp [Act.eval]; omega) (hb _) ?_)
      refine (CB _).mono ?_
      rintro e w1 ⟨p1, rfl, o1, b1⟩
      go_wp2_with (fail)
      go_ret
      exact ⟨_, _, rfl, o1, b1⟩
def ptZ (ks us : List Int) : Int := ladZ (bitB (clampL ks)) (numF us)
theorem ptZ_range (ks us : List Int) : 0 ≤ ptZ ks us ∧ ptZ ks us < fldP := ⟨Int.emod_nonneg _ (by have := fldP_pos; omega), Int.emod_lt_of_pos _ fldP_pos⟩
theorem ptZ_mod (ks us : List Int) : ptZ ks us % fldP = ptZ ks us := Int.emod_eq_of_lt (ptZ_range ks us).1 (ptZ_range ks us).2
theorem ofZ_sm {us : List Int} (hb : ∀ x ∈ us, 0 ≤ x ∧ x < 256) : smZ (ofZ us) := fun i => by
  have h := pairZ_range hb i
  have h' := pairZ_range hb 15
  unfold ofZ
  split <;> omega
theorem own_cap {e : Nat} {w : World} {lo hi : Nat} {p : Option Addr} {n c : Nat} {xs : List Int} (h : Own e w lo hi (.slice p n c) n xs) : n ≤ c := by
  rcases h.1.2 with ⟨h1, h2⟩ | ⟨g, cap, cur, h1, _, _, h2, _⟩
  · cases h1; exact Nat.le_refl _
  · cases h1; exact h2
set_option maxHeartbeats 4000000 in
theorem specPoint_any (p q : Option Addr) (n m c d : Nat) (ks us : List Int) (w : World) (hl : ks.length = n) (h : BytesIn w p n ks) (h' : BytesIn w q m us) (hb1 : ∀ x ∈ ks, 0 ≤ x ∧ x < 256) (hb2 : ∀ x ∈ us, 0 ≤ x ∧ x < 256) :
    Calls Tryz.prog 64 #[.slice p n c, .slice q m d] w fun e w' => ∃ p' c', e = .returned (.slice p' (fldN n m) c') ∧ Own 5 w' w.heap.size w'.heap.size (.slice p' (fldN n m) c') (fldN n m) (fldL (ptZ ks us) n m) ∧ Below w.heap.size w w' := by
  unfold fldN fldL
  by_cases hok : two32 n m
  · rw [if_pos hok, if_pos hok, ptZ_mod]
    obtain ⟨rfl, rfl⟩ := hok
    have C1 := specClamp_any p 32 c ks w hl h hb1
    have hN : oneN 32 = 32 := rfl
    have hC : clampR ks 32 = clampL ks := rfl
    rw [hN, hC] at C1
    have C2 := fun X (hX : Below w.heap.size w X) => l8Of_any q d us X (in_below h' hX) hb2
    have C3 := fun bk ok ck X hk => l9Ladder_any bk ok ck (clampL ks) (ofZ us) X (clampL_byte hb1) hk (ofZ_sm hb2)
    have hv : numB (ladZ (bitB (clampL ks)) (valZ (ofZ us) 16)) = numB (ptZ ks us) := rfl
    simp only [hv] at C3
    generalize numB (ptZ ks us) = V at C3
    generalize clampL ks = kk at C1 C3
    clear h h' hN hC hv hb1 hb2 hl
    go_enter Tryz.func64, Tryz.ntmps64
    go_wp2_with (fail)
    refine C1.mono ?_
    rintro e w1 ⟨p1, c1, rfl, o1, b1⟩
    go_wp2_with (fail)
    refine (C2 _ b1).mono ?_
    rintro e w2 ⟨rfl, b2⟩
    obtain ⟨bk, ok, rfl, hk⟩ := (o1.on b2).bytes (by decide)
    have C4 := C3 bk ok c1 w2 hk
    clear C3 hk
    go_wp2_with (fail)
    refine C4.mono ?_
    rintro e w3 ⟨p3, c3, rfl, r3, b3⟩
    have bel := below_on b1 b2
    go_wp2_with (fail)
    go_ret
    exact ⟨_, _, rfl, ⟨owns_mono r3.1 bel.size, r3.2⟩, below_on bel b3⟩
  · rw [if_neg hok, if_neg hok]
    have hown0 : (w.alloc (.cells #[] 5)).ownsRow w.heap.size 5 1 (.slice (some ⟨w.heap.size, 0, none⟩) 0 0) 0 (([] : List Int).map (Value.int .u8)) := World.ownsRow_made w #[] 0 (Nat.le_refl _) (by unfold maxLen; omega) rfl
    have hb0 : Below w.heap.size w (w.alloc (.cells #[] 5)) := (Below.refl _ _).alloc (Nat.le_refl _) _
    unfold two32 at hok
    clear h h'
    by_cases t0 : n = 32
    · subst t0
      have z1 : ((m : Int) != 32) = true := by simp; omega
      go_enter Tryz.func64, Tryz.ntmps64
      go_wp2_with (fail)
      go_ret
      exact ⟨_, _, rfl, .of hown0, hb0⟩
    · have z0 : ((n : Int) != 32) = true := by simp; omega
      go_enter Tryz.func64, Tryz.ntmps64
      go_wp2_with (fail)
      go_ret
      exact ⟨_, _, rfl, .of hown0, hb0⟩
def baseL : List Int := numB 9
theorem baseL_byte : ∀ x ∈ baseL, 0 ≤ x ∧ x < 256 := numB_byte 9
theorem fldN_one (n : Nat) : fldN n 32 = oneN n := by
  unfold fldN oneN
  by_cases h : n = 32
  · rw [if_pos (show two32 n 32 from ⟨h, rfl⟩), if_pos h]
  · rw [if_neg (show ¬ two32 n 32 from fun k => h k.1), if_neg h]
theorem fldL_one (z : Int) (n : Nat) : fldL z n 32 = oneL z n := by
  unfold fldL oneL
  by_cases h : n = 32
  · rw [if_pos (show two32 n 32 from ⟨h, rfl⟩), if_pos h]
  · rw [if_neg (show ¬ two32 n 32 from fun k => h k.1), if_neg h]
set_option maxHeartbeats 4000000 in
theorem specPublic_any (p : Option Addr) (n c : Nat) (ks : List Int) (w : World) (hl : ks.length = n) (h : BytesIn w p n ks) (hb1 : ∀ x ∈ ks, 0 ≤ x ∧ x < 256) :
    Calls Tryz.prog 30 #[.slice p n c] w fun e w' => ∃ p' c', e = .returned (.slice p' (oneN n) c') ∧ Own 5 w' w.heap.size w'.heap.size (.slice p' (oneN n) c') (oneN n) (oneL (ptZ ks baseL) n) ∧ Below w.heap.size w w' := by
  have C1 := specFieldNum_any 9 w (by decide)
  have hN : numB (nnZ 9) = baseL := rfl
  rw [hN] at C1
  have C2 := fun q d X (hX : Below w.heap.size w X) (hq : BytesIn X q 32 baseL) => specPoint_any p q n 32 c d ks baseL X hl (in_below h hX) hq hb1 baseL_byte
  rw [fldN_one, fldL_one] at C2
  generalize oneL (ptZ ks baseL) n = V at C2
  generalize oneN n = N at C2
  generalize baseL = B at C1 C2
  clear hN h hb1 hl
  go_enter Tryz.func30, Tryz.ntmps30
  go_wp2_with (fail)
  refine C1.mono ?_
  rintro e w1 ⟨p1, c1, rfl, o1, b1⟩
  have C3 := C2 p1 c1 w1 b1 o1.bytes
  clear C2
  go_wp2_with (fail)
  refine C3.mono ?_
  rintro e w2 ⟨p2, c2, rfl, o2, b2⟩
  go_wp2_with (fail)
  go_ret
  exact ⟨_, _, rfl, ⟨owns_mono o2.1 b1.size, o2.2⟩, below_on b1 b2⟩
def selP (c1 c2 b1 b2 : Nat) (L : Array Bool) (k : Nat) (p q : Bool) : Array Bool :=
  let L1 := if 1 ≤ k then L.setIfInBounds c1 true else L
  let L2 := if 2 ≤ k then L1.setIfInBounds c2 true else L1
  let L3 := if p then L2.setIfInBounds b1 true else L2
  if q then L3.setIfInBounds b2 true else L3
def rdP (c1 c2 b1 b2 : Nat) (k : Nat) (p q : Bool) : List Nat :=
  (if k = 0 then [c1] else if k = 1 then [c2] else []) ++ ((if p then [] else [b1]) ++ (if q then [] else [b2]))
def okP (ops : Array Oper) (c1 c2 b1 b2 : Nat) (L : Array Bool) : Bool :=
  decide (c1 ≠ c2 ∧ c1 ≠ b1 ∧ c1 ≠ b2 ∧ c2 ≠ b1 ∧ c2 ≠ b2 ∧ b1 ≠ b2) && (List.range 3).all fun k => [false, true].all fun p => [false, true].all fun q => (k == 2 && p && q) || (Region.ready .any ops (selP c1 c2 b1 b2 L k p q) == rdP c1 c2 b1 b2 k p q)
theorem okP_ready {ops : Array Oper} {c1 c2 b1 b2 : Nat} {L : Array Bool} (h : okP ops c1 c2 b1 b2 L = true) (k : Nat) (hk : k ≤ 2) (p q : Bool) (hne : ¬ (k = 2 ∧ p = true ∧ q = true)) :
    Region.ready .any ops (selP c1 c2 b1 b2 L k p q) = rdP c1 c2 b1 b2 k p q := by
  unfold okP at h
  rw [Bool.and_eq_true, List.all_eq_true] at h
  have h1 := h.2 k (List.mem_range.2 (by omega))
  rw [List.all_eq_true] at h1
  have h2 := h1 p (by cases p <;> simp)
  rw [List.all_eq_true] at h2
  have h3 := h2 q (by cases q <;> simp)
  rw [Bool.or_eq_true] at h3
  rcases h3 with h3 | h3
  · simp only [Bool.and_eq_true, beq_iff_eq] at h3
    exact absurd ⟨h3.1.1, h3.1.2, h3.2⟩ hne
  · simpa using h3
theorem okP_apart {ops : Array Oper} {c1 c2 b1 b2 : Nat} {L : Array Bool} (h : okP ops c1 c2 b1 b2 L = true) : c1 ≠ c2 ∧ c1 ≠ b1 ∧ c1 ≠ b2 ∧ c2 ≠ b1 ∧ c2 ≠ b2 ∧ b1 ≠ b2 := by
  unfold okP at h
  rw [Bool.and_eq_true] at h
  exact of_decide_eq_true h.1
def frP (a : Act) (d1 d2 e1 e2 : Nat) (u1 u2 r1 r2 : Value) : Act := (((a.put (some d1) u1).put (some d2) u2).put (some e1) r1).put (some e2) r2
section
variable {P : Program} {ops : Array Oper} {Q : Exit → Act → World → Prop} {T : World → Prop} {m : Nat}
theorem anyT_pair {c1 c2 b1 b2 d1 d2 e1 e2 fuel ty : Nat} {L : Array Bool} {a : Act} {W : World} {Z : Array Value} {pt : Nat → Value} {v1 v2 : Value} (hok : okP ops c1 c2 b1 b2 L = true)
    (ha : frP a d1 d2 e1 e2 undef undef undef undef = a) (hZ : Z = (uV (fun _ => 0) 4).toArray)
    (hT : ∀ X, Below W.heap.size W X → T X)
    (hc1 : ∀ u1 u2 X, T X → wpOp P ops Q c1 (fun a' w' => a' = frP a d1 d2 e1 e2 u1 u2 v1 undef ∧ Below X.heap.size X w') (frP a d1 d2 e1 e2 u1 u2 undef undef) X)
    (hc2 : ∀ u1 u2 X, T X → wpOp P ops Q c2 (fun a' w' => a' = frP a d1 d2 e1 e2 u1 u2 v1 v2 ∧ Below X.heap.size X w') (frP a d1 d2 e1 e2 u1 u2 v1 undef) X)
    (hb1 : ∀ u2 r1 r2 X, wpOp P ops Q b1 (fun a' w' => a' = frP a d1 d2 e1 e2 (pt X.heap.size) u2 r1 r2 ∧ w' = X.alloc (.cells Z ty)) (frP a d1 d2 e1 e2 undef u2 r1 r2) X)
    (hb2 : ∀ u1 r1 r2 X, wpOp P ops Q b2 (fun a' w' => a' = frP a d1 d2 e1 e2 u1 (pt X.heap.size) r1 r2 ∧ w' = X.alloc (.cells Z ty)) (frP a d1 d2 e1 e2 u1 undef r1 r2) X)
    (hend : ∀ X g1 g2, Below W.heap.size W X → RowU ty 4 X W.heap.size g1 (fun _ => 0) → RowU ty 4 X W.heap.size g2 (fun _ => 0) → g1 ≠ g2 →
      AnyT P ops Q T (fun _ => True) m fuel (selP c1 c2 b1 b2 L 2 true true) (frP a d1 d2 e1 e2 (pt g1) (pt g2) v1 v2) X) :
    AnyT P ops Q T (fun _ => True) m (fuel + 4) L a W := by
  obtain ⟨n12, n13, n14, n23, n24, n34⟩ := okP_apart hok
  have key : ∀ n k p q, k ≤ 2 → (2 - k) + ((if p then 0 else 1) + (if q then 0 else 1)) = n → ∀ X g1 g2, Below W.heap.size W X → (p = true → RowU ty 4 X W.heap.size g1 (fun _ => 0)) → (q = true → RowU ty 4 X W.heap.size g2 (fun _ => 0)) → (p = true → q = true → g1 ≠ g2) →
      AnyT P ops Q T (fun _ => True) m (fuel + n) (selP c1 c2 b1 b2 L k p q) (frP a d1 d2 e1 e2 (if p then pt g1 else undef) (if q then pt g2 else undef) (if 1 ≤ k then v1 else undef) (if 2 ≤ k then v2 else undef)) X := by
    intro n
    induction n with
    | zero =>
      intro k p q hk hn X g1 g2 hX h1 h2 h12
      have hk2 : k = 2 := by omega
      have hp : p = true := by cases p <;> simp_all
      have hq : q = true := by cases q <;> simp_all
      subst hk2 hp hq
      exact hend X g1 g2 hX (h1 rfl) (h2 rfl) (h12 rfl rfl)
    | succ n ih =>
      intro k p q hk hn X g1 g2 hX h1 h2 h12
      have hne : ¬ (k = 2 ∧ p = true ∧ q = true) := by
        rintro ⟨rfl, rfl, rfl⟩
        simp at hn
      have hrd := okP_ready hok k hk p q hne
      refine ⟨fun e => ?_, fun i hi => ?_⟩
      · rw [hrd] at e
        have hk2 : k = 0 ∨ k = 1 ∨ k = 2 := by omega
        rcases hk2 with rfl | rfl | rfl <;> cases p <;> cases q <;> simp [rdP] at e
        exact absurd ⟨rfl, rfl, rfl⟩ hne
      · rw [hrd, rdP, List.mem_append, List.mem_append] at hi
        rcases hi with hi | hi | hi
        · by_cases hk0 : k = 0
          · subst hk0
            rw [if_pos rfl, List.mem_singleton] at hi
            subst hi
            refine wpOp_mono (fun a' w' hh => ?_) (hc1 (if p then pt g1 else undef) (if q then pt g2 else undef) X (hT X hX))
            obtain ⟨rfl, hb⟩ := hh
            have hX' := below_on hX hb
            refine ⟨hT _ hX', fun _ => trivial, ?_⟩
            have hL : (selP i c2 b1 b2 L 0 p q).setIfInBounds i true = selP i c2 b1 b2 L 1 p q := by
              cases p <;> cases q <;> simp [selP]
              · rw [Array.setIfInBounds_comm _ _ (Ne.symm n14)]
              · rw [Array.setIfInBounds_comm _ _ (Ne.symm n13)]
              · rw [Array.setIfInBounds_comm _ _ (Ne.symm n14), Array.setIfInBounds_comm _ _ (Ne.symm n13)]
            rw [hL]
            exact ih 1 p q (by omega) (by omega) w' g1 g2 hX' (fun h => (h1 h).below hb) (fun h => (h2 h).below hb) h12
          · by_cases hk1 : k = 1
            · subst hk1
              rw [if_neg hk0, if_pos rfl, List.mem_singleton] at hi
              subst hi
              refine wpOp_mono (fun a' w' hh => ?_) (hc2 (if p then pt g1 else undef) (if q then pt g2 else undef) X (hT X hX))
              obtain ⟨rfl, hb⟩ := hh
              have hX' := below_on hX hb
              refine ⟨hT _ hX', fun _ => trivial, ?_⟩
              have hL : (selP c1 i b1 b2 L 1 p q).setIfInBounds i true = selP c1 i b1 b2 L 2 p q := by
                cases p <;> cases q <;> simp [selP]
                · rw [Array.setIfInBounds_comm _ _ (Ne.symm n24)]
                · rw [Array.setIfInBounds_comm _ _ (Ne.symm n23)]
                · rw [Array.setIfInBounds_comm _ _ (Ne.symm n24), Array.setIfInBounds_comm _ _ (Ne.symm n23)]
              rw [hL]
              exact ih 2 p q (by omega) (by omega) w' g1 g2 hX' (fun h => (h1 h).below hb) (fun h => (h2 h).below hb) h12
            · rw [if_neg hk0, if_neg hk1] at hi
              exact absurd hi List.not_mem_nil
        · cases p with
          | true => exact absurd hi (by simp)
          | false =>
            have hi' : i = b1 := by simpa using hi
            subst hi'
            refine wpOp_mono (fun a' w' hh => ?_) (hb1 (if q then pt g2 else undef) (if 1 ≤ k then v1 else undef) (if 2 ≤ k then v2 else undef) X)
            obtain ⟨rfl, rfl⟩ := hh
            have hb : Below X.heap.size X (X.alloc (.cells Z ty)) := (Below.refl _ _).alloc (Nat.le_refl _) _
            have hX' := below_on hX hb
            have hr := RowU.made X ty 4 W.heap.size (fun _ => 0) (by decide) hX.size
            rw [← hZ] at hr
            refine ⟨hT _ hX', fun _ => trivial, ?_⟩
            have hL : (selP c1 c2 i b2 L k false q).setIfInBounds i true = selP c1 c2 i b2 L k true q := by
              cases q <;> simp [selP]
              rw [Array.setIfInBounds_comm _ _ (Ne.symm n34)]
            rw [hL]
            exact ih k true q hk (by simp at hn ⊢; omega) _ X.heap.size g2 hX' (fun _ => hr) (fun h => (h2 h).below hb) (fun _ h => by have := (h2 h).lt; omega)
        · cases q with
          | true => exact absurd hi (by simp)
          | false =>
            have hi' : i = b2 := by simpa using hi
            subst hi'
            refine wpOp_mono (fun a' w' hh => ?_) (hb2 (if p then pt g1 else undef) (if 1 ≤ k then v1 else undef) (if 2 ≤ k then v2 else undef) X)
            obtain ⟨rfl, rfl⟩ := hh
            have hb : Below X.heap.size X (X.alloc (.cells Z ty)) := (Below.refl _ _).alloc (Nat.le_refl _) _
            have hX' := below_on hX hb
            have hr := RowU.made X ty 4 W.heap.size (fun _ => 0) (by decide) hX.size
            rw [← hZ] at hr
            refine ⟨hT _ hX', fun _ => trivial, ?_⟩
            have hL : (selP c1 c2 b1 i L k p false).setIfInBounds i true = selP c1 c2 b1 i L k p true := by
              cases p <;> simp [selP]
            rw [hL]
            exact ih k p true hk (by simp at hn ⊢; omega) _ g1 X.heap.size hX' (fun h => (h1 h).below hb) (fun _ => hr) (fun h _ => by have := (h1 h).lt; omega)
  have h := key 4 0 false false (by omega) rfl W 0 0 (Below.refl _ _) (fun h => by cases h) (fun h => by cases h) (fun h => by cases h)
  have e : selP c1 c2 b1 b2 L 0 false false = L := by simp [selP]
  rw [e] at h
  simp only [Bool.false_eq_true, if_false, show ¬ (1 ≤ 0) by omega, show ¬ (2 ≤ 0) by omega] at h
  rw [ha] at h
  exact h
end
theorem eqItems_u64 {P : Program} (w : World) (d : Nat) {e : TypeId} (he : P.underlying e = some (.int .u64)) (hc : P.cellsOf e = 1) (hag : ∀ w, (isAgg e).run P w = .ok false w) (xs ys : List Int) : ∀ (is : List Nat), (∀ i ∈ is, i < xs.length ∧ i < ys.length) →
    (Op.eqItems (d + 1) e (P.cellsOf e) (xs.map (Value.int .u64)).toArray (ys.map (Value.int .u64)).toArray is).run P w = .ok (is.all fun i => xs.getD i 0 == ys.getD i 0) w
  | [], _ => by simp [Op.eqItems]
  | i :: is, h => by
    have h1 := h i (by simp)
    have p1 : ∀ zs : List Int, i < zs.length → (part e (zs.map (Value.int .u64)).toArray (i * 1)).run P w = .ok (.int .u64 (zs.getD i 0)) w := by
      intro zs hz
      simp [part, hag, List.getElem?_eq_getElem hz]
    have ih := eqItems_u64 w d he hc hag xs ys is (fun j hj => h j (by simp [hj]))
    rw [hc] at ih ⊢
    simp only [Op.eqItems, Sem.run_bind, p1 xs h1.1, p1 ys h1.2, Result.andThen_ok, run_equalIn_int w d e .u64 .u64 _ _ he, List.all_cons]
    simp only [List.getD_eq_getElem?_getD] at ih ⊢
    by_cases hq : xs[i]?.getD 0 = ys[i]?.getD 0
    · simp [hq, ih]
    · simp [hq]
theorem listU_all {xs ys : List Int} {n : Nat} (hx : xs.length = n) (hy : ys.length = n) : ((List.range n).all fun i => xs.getD i 0 == ys.getD i 0) = decide (xs = ys) := by
  by_cases h : xs = ys
  · subst h
    simp
  · rw [decide_eq_false h]
    rw [Bool.eq_false_iff]
    intro hall
    apply h
    apply List.ext_getElem (by omega)
    intro i h1 h2
    simp only [List.all_eq_true, List.mem_range, beq_iff_eq] at hall
    have := hall i (by omega)
    simpa [List.getElem?_eq_getElem h1, List.getElem?_eq_getElem h2] using this
theorem infoW64F : (Tryz.prog.info? 110).map (fun i => (i.zero, i.size, i.bytes)) = some (some (.int .u64 0), 1, 8) := by kernel_rfl
theorem fldEq (f g : Nat → Int) (w : World) : (Op.equalIn 10000 112 (.agg (uV f 4).toArray) (.agg (uV g 4).toArray)).run Tryz.prog w = .ok (decide (zL f 4 = zL g 4)) w := by
  obtain ⟨i0, hi⟩ : ∃ i0, Tryz.prog.info? 110 = some i0 := by
    cases h : Tryz.prog.info? 110 with
    | none => have := infoW64F; rw [h] at this; cases this
    | some i => exact ⟨i, rfl⟩
  have hc : Tryz.prog.cellsOf 110 = 1 := by kernel_rfl
  unfold uV
  rw [show (10000 : Nat) = 9998 + 1 + 1 from rfl, run_equalIn_array w (9998 + 1) _ _ Tryz.underlying112 hi, eqItems_u64 w 9998 Tryz.underlying110 hc (fun w => by simp [isAgg, run_underlying Tryz.underlying110]) (zL f 4) (zL g 4) _ (fun i hi => by rw [List.mem_range] at hi; rw [zL_length, zL_length]; omega), listU_all (zL_length f 4) (zL_length g 4)]
theorem zL_num {y : Int} (h0 : 0 ≤ y) (h1 : y < bU ^ 4) : decide (zL (numU y) 4 = zL (fun _ => 0) 4) = decide (y = 0) := by
  apply decide_eq_decide.2
  constructor
  · intro h
    refine num_inj h0 h1 (by decide) (by decide) fun k hk => ?_
    have e : (zL (numU y) 4)[k]? = (zL (fun _ => 0) 4)[k]? := by rw [h]
    simp [zL, hk] at e
    rw [e, num_nought]
  · rintro rfl
    exact List.map_congr_left fun i _ => num_nought i
set_option maxHeartbeats 8000000 in
theorem rop_any (x y : Int) (w : World) (hx0 : 0 ≤ x) (hx : x < bU ^ 4) (hy0 : 0 ≤ y) (hy : y < bU ^ 4) :
    Calls Tryz.prog 131 #[uP x, uP y] w fun e w' => e = .returned (uP ((x + y * bU ^ 4) % fldP)) ∧ Below w.heap.size w w' := by
  obtain ⟨R, hR⟩ : ∃ R, R = (x + y * bU ^ 4) % fldP := ⟨_, rfl⟩
  rw [← hR]
  replace hR : Hid (R = (x + y * bU ^ 4) % fldP) := hR
  have hgd : Tryz.prog.eqGuardType Tryz.prog.depth 112 = false := by kernel_rfl
  have hb0 : ∀ w, (Instr.build 112 #[]).run Tryz.prog w = .ok (.agg (uV (fun _ => 0) 4).toArray) w := fun w => run_build w 112 _ _ (by kernel_rfl)
  have hb1 : Hid (∀ c w, (Instr.build 112 #[(0, .int .u64 c)]).run Tryz.prog w = .ok (.agg (uV (fun k => if k = 0 then c else 0) 4).toArray) w) := fun c w => run_build w 112 _ _ (by kernel_rfl)
  have hz := (zero_of_info infoU4).1
  unfold uP
  obtain ⟨V, hV⟩ : ∃ V, V = numU R := ⟨_, rfl⟩
  rw [← hV]
  replace hV : Hid (V = numU R) := hV
  obtain ⟨A, hA⟩ : ∃ A, A = (uV (numU x) 4).toArray := ⟨_, rfl⟩
  obtain ⟨B, hB⟩ : ∃ B, B = (uV (numU y) 4).toArray := ⟨_, rfl⟩
  obtain ⟨Z, hZ⟩ : ∃ Z, Z = (uV (fun _ => 0) 4).toArray := ⟨_, rfl⟩
  obtain ⟨m0, m1, m2, bel, sz⟩ := rows3 w (numU x) (numU y) (fun _ => 0) hA hB hZ
  rw [← hA, ← hB]
  rw [← hZ] at hz hb0
  clear hA hB
  have HEQ := fun f w => fldEq f (fun _ => 0) w
  rw [← hZ] at HEQ
  clear hZ
  go_enter Tryz.func131, Tryz.ntmps131
  go_wp2_with (fail)
  obtain ⟨G1, hG1⟩ : ∃ G1, G1 = w.heap.size + 1 := ⟨_, rfl⟩
  obtain ⟨G2, hG2⟩ : ∃ G2, G2 = G1 + 1 := ⟨_, rfl⟩
  rw [← hG1] at m1 m2 sz ⊢
  rw [← hG2] at m2 sz ⊢
  generalize ((w.alloc (.cells A 112)).alloc (.cells B 112)).alloc (.cells Z 112) = wb at m0 m1 m2 bel sz ⊢
  have hloR : w.heap.size ≤ G2 := by omega
  have h1m : w.heap.size < G1 := by omega
  have h2m : G1 < G2 := by omega
  have szb : G2 < wb.heap.size := by omega
  clear hG1 hG2 sz
  go_loopw [] (fun wr => ∃ x y : Int, (0 ≤ x ∧ x < bU ^ 4) ∧ (0 ≤ y ∧ y < bU ^ 4) ∧ Hid (R = (x + y * bU ^ 4) % fldP) ∧ RowU 112 4 wr w.heap.size w.heap.size (numU x) ∧ RowU 112 4 wr w.heap.size G1 (numU y) ∧ RowU 112 4 wr w.heap.size G2 (fun _ => 0) ∧ Below w.heap.size w wr)
    (fun wr => (numRow wr w.heap.size + numRow wr G1 * bU ^ 4).toNat)
  case atStart => exact ⟨x, y, ⟨hx0, hx⟩, ⟨hy0, hy⟩, hR, m0, m1, m2, bel⟩
  case round =>
    clear m0 m1 m2 bel hx0 hx hy0 hy szb hR
    clear x y
    obtain ⟨x, y, lx, ly, hR, hn, hm, hr, bel⟩ := hrel
    have HM : Hid (numRow wr w.heap.size = x ∧ numRow wr G1 = y) := ⟨by rw [hn.num, val_four lx.1 lx.2], by rw [hm.num, val_four ly.1 ly.2]⟩
    have HQ := fun w => HEQ (numU y) w
    have hrm := hm.range
    clear HEQ
    by_cases hy : y = 0
    · have hd : decide (zL (numU y) 4 = zL (fun _ => 0) 4) = true := by rw [zL_num ly.1 ly.2]; simp [hy]
      rw [hd] at HQ
      have hV2 : V = numU (x % fldP) := by rw [hV.out, hR.out, hy, Int.zero_mul, Int.add_zero]
      have CR := fun X => rest_any x X lx.1 lx.2
      unfold uP at CR
      rw [← hV2] at CR
      obtain ⟨Y, hY⟩ : ∃ Y, Y = numU y := ⟨_, rfl⟩
      rw [← hY] at HQ hrm hm
      clear hd hV hV2 hR hY HM hy
      have hrn := hn.range
      have hsw := hn.lt
      go_wp2_with (first | (refine wpList_load_mid rfl 112 _ rfl G1 0 rfl (uV Y 4) _ hrm Tryz.underlying112 rfl sizeU ?_) | (refine wpList_build_run rfl 112 #[] rfl #[] (by simp) (hb0 _) ?_) | (refine wpList_load_mid rfl 112 _ rfl w.heap.size 0 rfl (uV (numU x) 4) _ hrn Tryz.underlying112 rfl sizeU ?_))
      refine (CR _).mono ?_
      rintro e w2 ⟨rfl, b2⟩
      have hr2 := hr.below b2
      have bel2 := below_on bel b2
      have hsz5 := b2.size
      clear hr bel hrn hrm b2 CR
      have hp := RowU.put hr2 (f' := V)
      have hth := RowU.there2 hr2 (f' := V)
      have hbel := Below.grown bel2 hp.2 (by omega) (fun k hk => by cases hk; exact hloR)
      have hld := run_loadVar_mid (P := Tryz.prog) _ G2 0 112 _ _ hp.1.range Tryz.underlying112 rfl sizeU
      clear hp
      go_wp2_with (refine wpList_store_mid rfl 112 _ _ rfl G2 0 (uV V 4).toArray rfl rfl hth sizeU2 (all_oneCell_toArray (uV_one V 4)) ?_)
      (try simp only [Exit.inBlock, Exit.then])
      refine bodyPost_ret (v := .agg (uV V 4).toArray) ?_ rfl ⟨rfl, hbel⟩
      simp [results, asAddr, Act.put, hld]
    · have hd : decide (zL (numU y) 4 = zL (fun _ => 0) 4) = false := by rw [zL_num ly.1 ly.2]; simp [hy]
      rw [hd] at HQ
      have HC : Hid (∀ k, 0 ≤ carU (overT x y) 0 k ∧ carU (overT x y) 0 k < bU) := fun k => carU_le (overT_le x y) (by decide) k
      have HD : Hid (∀ k, k < 4 → digU (overT x y) 0 k = numU ((x + y * 38) % bU ^ 4) k) := fun k hk => dig_over lx.1 lx.2 ly.1 ly.2 hk
      have HE : Hid (carU (overT x y) 0 4 = (x + y * 38) / bU ^ 4) := car_over lx.1 lx.2 ly.1 ly.2
      have h38 : (38 : Int) < bU ^ 4 := by decide
      have hpos := powU_pos 4
      have HS := Int.mul_ediv_add_emod (x + y * 38) (bU ^ 4)
      have h40 : 0 ≤ y * 38 := Int.mul_nonneg ly.1 (by decide)
      have h41 : y * 38 < y * bU ^ 4 := Int.mul_lt_mul_of_pos_left h38 (by omega)
      have HR2 : Hid (R = ((x + y * 38) % bU ^ 4 + (x + y * 38) / bU ^ 4 * bU ^ 4) % fldP) := by
        rw [Hid, hR.out, Int.mul_comm ((x + y * 38) / bU ^ 4), Int.add_comm ((x + y * 38) % bU ^ 4), HS]
        exact ((likeP.refl x).add ((show likeP (bU ^ 4) 38 from ⟨2, by decide⟩).mulL y)).mod
      have HME : Hid (((x + y * 38) % bU ^ 4 + (x + y * 38) / bU ^ 4 * bU ^ 4).toNat < (x + y * bU ^ 4).toNat) := by
        rw [Hid, Int.mul_comm ((x + y * 38) / bU ^ 4), Int.add_comm ((x + y * 38) % bU ^ 4), HS]
        have := lx.1
        omega
      have lx2 : 0 ≤ (x + y * 38) % bU ^ 4 ∧ (x + y * 38) % bU ^ 4 < bU ^ 4 := ⟨Int.emod_nonneg _ (by omega), Int.emod_lt_of_pos _ hpos⟩
      have ly3 := HC.out 4
      rw [HE.out] at ly3
      have hb4 : bU < bU ^ 4 := by decide
      have ly2 : 0 ≤ (x + y * 38) / bU ^ 4 ∧ (x + y * 38) / bU ^ 4 < bU ^ 4 := ⟨ly3.1, Int.lt_trans ly3.2 hb4⟩
      clear hb4
      obtain ⟨x2, hx2⟩ : ∃ x2, x2 = (x + y * 38) % bU ^ 4 := ⟨_, rfl⟩
      obtain ⟨y2, hy2⟩ : ∃ y2, y2 = (x + y * 38) / bU ^ 4 := ⟨_, rfl⟩
      rw [← hx2] at HD HR2 HME lx2
      rw [← hy2] at HE HR2 HME ly3 ly2
      clear hd h38 hpos HS h40 h41 hy hx2 hy2 hR
      obtain ⟨F0, hF0⟩ : ∃ F0, F0 = numU y := ⟨_, rfl⟩
      have hrm' := hrm
      rw [← hF0] at hrm' HQ
      clear hF0 hrm
      go_wp2_with (first | (refine wpList_load_mid rfl 112 _ rfl G1 0 rfl (uV F0 4) _ hrm' Tryz.underlying112 rfl sizeU ?_) | (refine wpList_build_run rfl 112 #[] rfl #[] (by simp) (hb0 _) ?_))
      clear HQ hrm' hb0
      refine (sums_any 0 _).mono ?_
      rintro e w1 ⟨rfl, rfl⟩
      have mo := overRow wr w.heap.size 0 (by have := hn.lt; omega)
      obtain ⟨GO, hGO⟩ : ∃ GO, GO = wr.heap.size := ⟨_, rfl⟩
      rw [← hGO] at mo ⊢
      generalize wr.alloc (.cells #[.int .u64 0] 110) = wc at mo ⊢
      have bo : Below wr.heap.size wr wc := by rw [← hGO]; exact mo.2
      have hg1 := hr.lt
      have DS : Apart4 w.heap.size G1 G2 GO := ⟨by omega, by omega, by omega, by omega, by omega, by omega⟩
      have hI0 : SumI w w.heap.size w.heap.size G1 G2 GO (numU x) (numU y) (fun _ => 0) 0 wc := ⟨hn.below bo, hm.below bo, hr.below bo, mo.1, below_on bel bo⟩
      clear hn hm hr mo bo bel hGO hg1
      unfold tellV
      go_wp2_with (fail)
      go_loopw [11] (fun i wr => ∃ k : Nat, k ≤ 4 ∧ i = .int .i64 k ∧ SumI w w.heap.size w.heap.size G1 G2 GO (mixU (digU (overT x y) 0) (numU x) k) (numU y) (fun _ => 0) (carU (overT x y) 0 k) wr)
        (fun i _ => 4 - (intOf i).toNat)
      case atStart => exact ⟨0, by omega, rfl, hI0.congr fun i _ => (mixU_zero _ _ i).symm⟩
      case round =>
        clear hI0
        obtain ⟨k, hk, rfl, hI⟩ := hrel
        by_cases hlt : k < 4
        · have hlt' : (k : Int) < 4 := by omega
          have hD := hI.drew
          obtain ⟨wX, hwX⟩ : ∃ wX, wX = wr.drew := ⟨_, rfl⟩
          rw [← hwX] at hD
          have cn := hD.n.cell k hlt
          rw [mixU_at] at cn
          have cm := hD.m.cell k hlt
          have co := hD.o.cell 0 (by decide)
          have fo := hD.o.frozen 0
          have fn0 := hD.n.frozen k
          have la := numU_range x k
          have lb := numU_range y k
          have lc := HC.out k
          have h2 := (hD.tell DS (carU (overT x y) 0 (k + 1))).store DS k (digU (overT x y) 0 k)
          replace h2 := h2.congr fun i _ => mixU_step (digU (overT x y) 0) (numU x) k i
          have h1 := hD.tell DS (carU (overT x y) 0 (k + 1))
          have cn1 := h1.n.cell k hlt
          rw [mixU_at] at cn1
          have cm1 := h1.m.cell k hlt
          have fn1 := h1.n.frozen k
          have cm2 := h2.m.cell k hlt
          have EQ : Hid (overT x y k = numU x k + numU y k * 38) := by show numU x k + numU y k * 38 = _; (try unfold bU); omega
          have CT := fun h h' => tell_any GO (numU x k) (numU y k) 38 (carU (overT x y) 0 k) (digU (overT x y) 0 k) (carU (overT x y) 0 (k + 1)) wX la (by unfold bU at lb ⊢; omega) (by decide) lc (by rw [← EQ.out]; rfl) (by rw [← EQ.out]; rfl) h h'
          have CT' := CT co fo
          clear CT EQ
          have ld := digU_range (overT x y) 0 k
          obtain ⟨o, ho⟩ : ∃ o, o = carU (overT x y) 0 (k + 1) := ⟨_, rfl⟩
          rw [← ho] at CT' h1 h2 cn1 cm1 cm2 fn1
          replace ho : Hid (o = carU (overT x y) 0 (k + 1)) := ho
          generalize digU (overT x y) 0 k = r at CT' h2 cm2 ld
          generalize numU x k = a at cn cn1 CT' la
          generalize numU y k = b at cm cm1 cm2 CT' lb
          generalize carU (overT x y) 0 k = cc at co lc
          unfold bU at la lb lc ld
          clear co fo hI h1 hD
          replace hwX : Hid (wX = wr.drew) := hwX
          go_wp2_with (fail)
          refine wp_region_noPanic ?_
          refine wp_region_T 10 (fun X => X.cell? ⟨G1, k, none⟩ = some (.int .u64 b)) (fun X => X.cell? ⟨w.heap.size, k, none⟩ = some (.int .u64 a)) (by kernel_rfl) ?_
          rw [← hwX.out]
          clear hwX
          refine anyT_takeT (i := 0) (v := .int .i64 (k : Int)) rfl (by kernel_rfl) (by kernel_rfl) (by kernel_rfl) (by kernel_rfl) (fun _ _ _ h => h) (Or.inl ⟨by rfl, fun X hSw => by ((try dsimp only at hSw); go_simp)⟩) cm (fun _ => cn) ?_
          simp only [Act.put, List.getElem_toArray, List.getElem_cons_zero, List.setIfInBounds_toArray, List.set_cons_zero, List.set_cons_succ]
          refine anyT_takeT (i := 1) (v := tellV GO) rfl (by kernel_rfl) (by kernel_rfl) (by kernel_rfl) (by kernel_rfl) (fun _ _ _ h => h) (Or.inl ⟨by rfl, fun X hSw => by ((try dsimp only at hSw); unfold tellV; go_simp)⟩) cm (fun _ => cn) ?_
          simp only [Act.put, List.getElem_toArray, List.getElem_cons_zero, List.getElem_cons_succ, List.setIfInBounds_toArray, List.set_cons_zero, List.set_cons_succ]
          refine anyT_takeT (i := 2) (v := .int .i64 (k : Int)) rfl (by kernel_rfl) (by kernel_rfl) (by kernel_rfl) (by kernel_rfl) (fun _ _ _ h => h) (Or.inl ⟨by rfl, fun X hSw => by ((try dsimp only at hSw); go_simp)⟩) cm (fun _ => cn) ?_
          simp only [Act.put, List.getElem_toArray, List.getElem_cons_zero, List.getElem_cons_succ, List.setIfInBounds_toArray, List.set_cons_zero, List.set_cons_succ]
          refine anyT_takeT (i := 3) (v := .pointer (some ⟨w.heap.size, k, none⟩)) rfl (by kernel_rfl) (by kernel_rfl) (by kernel_rfl) (by kernel_rfl) (fun _ _ _ h => h) (Or.inl ⟨by rfl, fun X hSw => by ((try dsimp only at hSw); go_simp)⟩) cm (fun _ => cn) ?_
          simp only [Act.put, List.getElem_toArray, List.getElem_cons_zero, List.getElem_cons_succ, List.setIfInBounds_toArray, List.set_cons_zero, List.set_cons_succ]
          refine anyT_takeS (i := 4) (v := .int .u64 a) rfl rfl (by kernel_rfl) (by kernel_rfl) (by kernel_rfl) (by kernel_rfl) (by kernel_rfl) (fun _ _ _ h => h) (Or.inl ⟨by rfl, fun X hSw => by (obtain ⟨q0, q1⟩ := hSw; go_simp)⟩) cm cn ?_
          simp only [Act.put, List.getElem_toArray, List.getElem_cons_zero, List.getElem_cons_succ, List.setIfInBounds_toArray, List.set_cons_zero, List.set_cons_succ]
          refine anyT_takeT (i := 5) (v := .int .i64 (k : Int)) rfl (by kernel_rfl) (by kernel_rfl) (by kernel_rfl) (by kernel_rfl) (fun _ _ _ h => h) (Or.inl ⟨by rfl, fun X hSw => by ((try dsimp only at hSw); go_simp)⟩) cm (fun _ => cn) ?_
          simp only [Act.put, List.getElem_toArray, List.getElem_cons_zero, List.getElem_cons_succ, List.setIfInBounds_toArray, List.set_cons_zero, List.set_cons_succ]
          refine anyT_takeT (i := 6) (v := .pointer (some ⟨G1, k, none⟩)) rfl (by kernel_rfl) (by kernel_rfl) (by kernel_rfl) (by kernel_rfl) (fun _ _ _ h => h) (Or.inl ⟨by rfl, fun X hSw => by ((try dsimp only at hSw); go_simp)⟩) cm (fun _ => cn) ?_
          simp only [Act.put, List.getElem_toArray, List.getElem_cons_zero, List.getElem_cons_succ, List.setIfInBounds_toArray, List.set_cons_zero, List.set_cons_succ]
          refine anyT_takeT (i := 7) (v := .int .u64 b) rfl (by kernel_rfl) (by kernel_rfl) (by kernel_rfl) (by kernel_rfl) (fun _ _ _ h => h) (Or.inl ⟨by rfl, fun X hSw => by ((try dsimp only at hSw); go_simp)⟩) cm (fun _ => cn) ?_
          simp only [Act.put, List.getElem_toArray, List.getElem_cons_zero, List.getElem_cons_succ, List.setIfInBounds_toArray, List.set_cons_zero, List.set_cons_succ]
          refine anyT_one (i := 8) (by kernel_rfl) rfl (fun K hK => ?_)
          unfold tellV
          go_simp
          refine CT'.mono ?_
          rintro e w9 ⟨rfl, rfl⟩
          go_wp2_with (fail)
          refine hK.out _ _ cm1 (fun _ => cn1) ?_
          clear hK K
          refine anyT_takeT (i := 9) (v := .pointer (some ⟨w.heap.size, k, none⟩)) rfl (by kernel_rfl) (by kernel_rfl) (by kernel_rfl) (by kernel_rfl) (fun _ _ _ h => h) (Or.inl ⟨by rfl, fun X hSw => by ((try dsimp only at hSw); go_simp)⟩) cm1 (fun _ => cn1) ?_
          simp only [Act.put, List.getElem_toArray, List.getElem_cons_zero, List.getElem_cons_succ, List.setIfInBounds_toArray, List.set_cons_zero, List.set_cons_succ]
          refine anyT_one (i := 10) (by kernel_rfl) rfl (fun K hK => ?_)
          go_simp
          refine hK.out _ _ cm2 (fun h => by cases h) ?_
          clear hK K
          refine anyT_done (by kernel_rfl) ?_ _
          refine NoPanic.normal ?_
          clear cm cn cm1 cn1 fn0 fn1 cm2 CT'
          go_wp2_with (fail)
          go_roundw
          case rel => exact ⟨k + 1, by omega, by go_num, by rw [← ho.out]; exact h2⟩
          case measure => simp [intOf]; omega
        · obtain rfl : k = 4 := by omega
          have hno : ¬ ((4 : Nat) : Int) < 4 := by omega
          replace hI := hI.congr (f' := numU x2) fun i hi => by rw [mixU_end _ _ hi, HD.out i hi]
          rw [HE.out] at hI
          have CT := tell_any GO 0 0 0 y2 y2 0 wr (by decide) (by decide) (by decide) ly3 (by unfold bU at ly3 ⊢; omega) (by unfold bU at ly3 ⊢; omega) (hI.o.cell 0 (by decide)) (hI.o.frozen 0)
          have h1 := hI.tell DS 0
          clear HC HD HE hI
          go_wp2_with (fail)
          refine CT.mono ?_
          rintro e w9 ⟨rfl, rfl⟩
          have hb2 := fun w => hb1.out y2 w
          have hFe : uV (fun k => if k = 0 then y2 else 0) 4 = uV (numU y2) 4 := uV_congr fun i _ => (num_one ly3.1 ly3.2 i).symm
          rw [hFe] at hb2
          generalize (World.setCell _ ⟨GO, 0, none⟩ (.int .u64 0)) = w5 at h1 ⊢
          have hp := h1.m.put (f' := numU y2)
          have hth := h1.m.there2 (f' := numU y2)
          have hn3 := h1.n.kept hp.2 DS.nm.symm
          have hr3 := h1.r.kept hp.2 (by omega)
          have bel3 := h1.b.grown hp.2 (by have := h1.n.lt; omega) (fun k hk => by cases hk; omega)
          have hm3 := hp.1
          clear hp h1 CT hFe
          obtain ⟨Y2, hY2⟩ : ∃ Y2, Y2 = numU y2 := ⟨_, rfl⟩
          rw [← hY2] at hb2 hth hn3 hr3 bel3 hm3
          replace hY2 : Hid (Y2 = numU y2) := hY2
          go_wp2_with (first | (refine wpList_build_run rfl 112 #[(0, .tmp 26)] rfl #[(0, .int .u64 y2)] (by simp [Act.eval]) (hb2 _) ?_) | (refine wpList_store_mid rfl 112 _ _ rfl G1 0 (uV Y2 4).toArray rfl rfl hth sizeU2 (all_oneCell_toArray (uV_one Y2 4)) ?_))
          refine ⟨⟨_, _, _, _, _, _, _, _, _, _, _, _, _, _, _, _, _, _, _, _, _, _, _, ?rel, rfl⟩, ?measure⟩
          case rel => exact ⟨x2, y2, lx2, ly2, HR2, hn3, by rw [← hY2.out]; exact hm3, hr3, bel3⟩
          case measure =>
            rw [hn3.num, hm3.num, HM.out.1, HM.out.2, hY2.out, val_four lx2.1 lx2.2, val_four ly2.1 ly2.2]
            exact HME.out
end Go.Proofs.YtnpffnhiefgglaaGreatDoor
