/-
  What the program's down answers: the ladder's point, as x by z. Conditions: 32 bytes; a number from 0 to below p.
-/
import Derived.Test.YtdjdanpicbaieaaGreatDoorParx24
import Derived.Test.YtdjdanpicbaieaaGreatDoorParx20
import Derived.ScopeJumps
import Derived.WalkMore
namespace Go.Proofs.YtdjdanpicbaieaaGreatDoor
open Go.RowKit

theorem wp_scope_from {P : Program} {c1 rest : Code} {Q : Exit → Act → World → Prop} {a : Act} {w : World} (l : Nat) (J : Act → World → Prop) (μ : Act → World → Nat) (hf : findLabel (c1.seq ((Code.label l).seq rest)) l = some (Code.skip.seq rest))
    (first : c1.wp P (fun e a' w' => e = .normal ∧ J a' w') a w)
    (pass : ∀ a w, J a w → rest.wp P (Exit.jump l (fun a' w' => J a' w' ∧ μ a' w' < μ a w) Q) a w) : (Code.scope (c1.seq ((Code.label l).seq rest))).wp P Q a w := by
  refine wp_scope_jumps l J μ hf (wp_seq (wp_mono first ?_)) (fun a w hJ => wp_seq (wp_skip (pass a w hJ)))
  rintro e a' w' ⟨rfl, hJ⟩
  refine wp_seq (wp_label ?_)
  refine wp_mono (pass a' w' hJ) fun e a w h => ?_
  cases e with
  | goto l' => exact ⟨h.1, h.2.1⟩
  | _ => exact h
theorem and1b (v : Nat) (h : v < 256) : bits .and .u8 (v : Int) 1 = bitI (decide (v % 2 = 1)) := by
  have e : bits .and .u8 (v : Int) 1 = IntKind.u8.wrap ((BitVec.ofInt 8 (v : Int) &&& BitVec.ofInt 8 1).toNat : Int) := rfl
  have e1 : (BitVec.ofInt 8 (v : Int)).toNat = v := by rw [BitVec.toNat_ofInt]; omega
  have e2 : (BitVec.ofInt 8 1).toNat = 2 ^ 1 - 1 := rfl
  have e3 : ∀ x : Int, IntKind.u8.wrap x = x % 256 := fun x => rfl
  rw [e, BitVec.toNat_and, e1, e2, Nat.and_two_pow_sub_one_eq_mod, e3]
  unfold bitI
  by_cases h2 : v % 2 = 1
  · simp [h2]
  · have : v % 2 = 0 := by omega
    simp [this]
theorem bitI_ne (a b : Bool) : (bitI a != bitI b) = (a != b) := by cases a <;> cases b <;> rfl
theorem bitI_one (a : Bool) : (bitI a == 1) = a := by cases a <;> rfl
theorem lad_two {X A C B D : List Value} (hX : Q4 X) (hA : Q4 A) (hC : Q4 C) : (LadV X A C B D).toArray.extract 4 12 = (A ++ C).toArray := by
  obtain ⟨a, b, c, d, rfl⟩ := four_of hX
  obtain ⟨a1, b1, c1, d1, rfl⟩ := four_of hA
  obtain ⟨a2, b2, c2, d2, rfl⟩ := four_of hC
  simp [LadV]
theorem field_two (A : Array Value) (X : World) : (Instr.field 90 (.agg A) 1).run Tryz.prog X = .ok (.agg (A.extract 4 12)) X := by kernel_rfl
def ratC (s : Lad) : List Value := numV s.a ++ numV s.c
theorem ladC_two (x : Int) (s : Lad) : (ladC x s).toArray.extract 4 12 = (ratC s).toArray := lad_two (q4 _) (q4 _) (q4 _)
theorem ratC_length (s : Lad) : (ratC s).length = 8 := rat_length (q4 _) (q4 _)
theorem ratC_one (s : Lad) : ∀ v ∈ ratC s, v.oneCell' = true := rat_one (q4 _) (q4 _)

set_option maxRecDepth 100000 in
set_option maxHeartbeats 8000000 in
theorem down_any (bk ok ck : Nat) (ks : List Int) (x : Int) (w : World) (hb : ∀ x ∈ ks, 0 ≤ x ∧ x < 256) (hk : ∀ i, i < 32 → w.cell? ⟨bk, ok + i, none⟩ = some (.int .u8 (ks.getD i 0))) (hx : inP x) :
    Calls Tryz.prog 63 #[.agg (ladC x ⟨1, x, 0, 1⟩).toArray, .slice (some ⟨bk, ok, none⟩) 32 ck] w fun e w' => e = .returned (.agg (ratC (modL (ladE (bitB ks) x))).toArray) ∧ Below w.heap.size w w' := by
  have hblt : bk < w.heap.size := World.block_lt_of_cell? w ⟨bk, ok + 0, none⟩ (hk 0 (by decide))
  have HK : Hid (∀ X, Below w.heap.size w X → ∀ i, i < 32 → X.cell? ⟨bk, ok + i, none⟩ = some (.int .u8 (ks.getD i 0))) := fun X hX i hi => (hX.cell (p := ⟨bk, ok + i, none⟩) hblt).trans (hk i hi)
  have HB : Hid (∀ i, 0 ≤ ks.getD i 0 ∧ ks.getD i 0 < 256) := fun i => byteZ hb i
  obtain ⟨bit, hbit⟩ : ∃ bit, bit = bitB ks := ⟨_, rfl⟩
  rw [← hbit]
  replace hbit : Hid (bit = bitB ks) := hbit
  have hz := (zero_of_info infoRat).1
  obtain ⟨Z, hZ⟩ : ∃ Z, Z = (uV (fun _ => 0) 8).toArray := ⟨_, rfl⟩
  rw [← hZ] at hz
  have e0 : modL (ladN bit x 0) = ⟨1, x, 0, 1⟩ := by
    have h1 : x % fldP = x := Int.emod_eq_of_lt hx.1 hx.2
    show modL ⟨1, x, 0, 1⟩ = _
    unfold modL
    simp only [h1]
    rfl
  rw [← e0]
  clear e0 hblt hk hb
  obtain ⟨AL, hAL⟩ : ∃ A, A = (ladC x (modL (ladN bit x 0))).toArray := ⟨_, rfl⟩
  obtain ⟨rl, rr, bel, sz⟩ := ladRows w (ladC_length x _) (ty := 88) (n := 8) (by decide) hAL hZ
  rw [← hAL]
  obtain ⟨LR, hR⟩ : ∃ L, L = ratC (modL (ladE bit x)) := ⟨_, rfl⟩
  rw [← hR]
  replace hR : Hid (LR = ratC (modL (ladE bit x))) := hR
  clear hAL hZ
  go_enter Tryz.func63, Tryz.ntmps63
  go_wp2_with (fail)
  obtain ⟨Gr, hGr⟩ : ∃ G, G = w.heap.size + 1 := ⟨_, rfl⟩
  rw [← hGr] at rr sz ⊢
  generalize (w.alloc (.cells AL 90)).alloc (.cells Z 88) = wb at rl rr bel sz ⊢
  have oGr : w.heap.size < Gr := by omega
  clear hGr sz hz
  refine wp_scope_from 0 (fun a' w' => ∃ n : Nat, n ≤ 255 ∧ RowL 90 20 w' w.heap.size w.heap.size (ladC x (modL (ladN bit x n))) ∧ RowL 88 8 w' w.heap.size Gr (uV (fun _ => 0) 8) ∧ Below w.heap.size w w' ∧
    ∃ (v5 v6 u7 u8 u9 u10 u11 u12 u13 u14 u15 u16 u17 u18 u19 u20 u21 u22 u23 u24 u25 u26 u27 : Value), a' = { tmps := #[.agg AL, .slice (some ⟨bk, ok, none⟩) 32 ck, .pointer (some ⟨w.heap.size, 0, none⟩), undef, .pointer (some ⟨Gr, 0, none⟩), v5, v6, u7, u8, u9, u10, u11, u12, u13, u14, u15, u16, u17, u18, u19, u20, u21, u22, u23, u24, u25, u26, u27, undef, undef, undef, undef, undef], defers := [] } ∧ v5 = .int .i64 ((255 - n : Nat) : Int) ∧ v6 = .int .u8 (bitI (lastB bit n))) (fun a' _ => (intOf (a'.tmps.getD 5 undef)).toNat) rfl ?_ ?_
  · go_wp2_with (fail)
    exact ⟨0, by omega, rl, rfl, rfl⟩
  · clear rl rr bel
    clear wb
    rintro a' wr ⟨n, hn, rl, rr, bel, v5, v6, u7, u8, u9, u10, u11, u12, u13, u14, u15, u16, u17, u18, u19, u20, u21, u22, u23, u24, u25, u26, u27, rfl, rfl, rfl⟩
    by_cases hlt : n < 255
    · obtain ⟨m, hm⟩ : ∃ m : Nat, m = 255 - n := ⟨_, rfl⟩
      obtain ⟨j, hj⟩ : ∃ j : Nat, j = 254 - n := ⟨_, rfl⟩
      have hmm : Hid (m = 255 - n) := hm
      rw [← hm]
      have hgt : (m : Int) > 0 := by omega
      have hm1 : (m : Int) - 1 = (j : Int) := by omega
      have lj : (j : Int) < 256 := by omega
      have cv := HK.out _ bel (j / 8) (by omega)
      have hvb := HB.out (j / 8)
      obtain ⟨v, hv⟩ : ∃ v : Nat, (v : Int) = ks.getD (j / 8) 0 := ⟨(ks.getD (j / 8) 0).toNat, by omega⟩
      rw [← hv] at cv
      obtain ⟨q, hq⟩ : ∃ q : Nat, q = j / 8 := ⟨_, rfl⟩
      rw [← hq] at cv
      have eq : Int.tdiv (j : Int) 8 = (q : Int) := by rw [hq]; exact (Int.ofNat_tdiv j 8).symm
      have lq : (q : Int) < 32 := by omega
      obtain ⟨r, hr⟩ : ∃ r : Nat, r = j % 8 := ⟨_, rfl⟩
      have er : Int.tmod (j : Int) 8 = (r : Int) := by rw [hr]; exact (Int.ofNat_tmod j 8).symm
      have lr : r < 8 := by omega
      have lr' : (r : Int) < 64 := by omega
      have hvl : v < 256 := by omega
      obtain ⟨u, hu⟩ : ∃ u : Nat, u = v / 2 ^ r := ⟨_, rfl⟩
      have eu : (v : Int) / 2 ^ r = (u : Int) := by rw [hu, Int.natCast_ediv, Int.natCast_pow]; rfl
      have lu : u < 256 := by rw [hu]; exact Nat.lt_of_le_of_lt (Nat.div_le_self _ _) hvl
      have a1 := and1b u lu
      have hv2 : (ks.getD q 0).toNat = v := by rw [hq]; omega
      have ebt : decide (u % 2 = 1) = bit j := by rw [hbit.out]; unfold bitB; rw [← hq, ← hr, hv2, hu]
      rw [ebt] at a1
      obtain ⟨lb, hlb⟩ : ∃ lb, lb = lastB bit n := ⟨_, rfl⟩
      rw [← hlb]
      obtain ⟨bj, hbj⟩ : ∃ bj, bj = bit j := ⟨_, rfl⟩
      rw [← hbj] at a1
      have lvv : (v : Int) < 256 := by omega
      have luu : (u : Int) < 256 := by omega
      have hne := bitI_ne bj lb
      have hS := inL_mod (ladN bit x n)
      have CC : ∀ X, Calls Tryz.prog 97 #[.agg (ladC x (modL (ladN bit x n))).toArray, .bool (bj != lb)] X fun e w' => e = .returned (.agg (ladC x (ladIf (bj != lb) (modL (ladN bit x n)))).toArray) ∧ Below X.heap.size X w' := fun X => changed_any x _ _ X
      have CS := fun X => step_any x (ladIf (bj != lb) (modL (ladN bit x n))) X hx (hS.ladIf _)
      have hnx : modL (ladStep x (ladIf (bj != lb) (modL (ladN bit x n)))) = modL (ladN bit x (n + 1)) := by
        have h1 : ladN bit x (n + 1) = ladStep x (ladIf (bj != lb) (ladN bit x n)) := by
          rw [hbj, hlb, hj]
          rfl
        rw [h1]
        exact (like_step (likeP.refl x) ((modL_like _).ladIf _)).modL
      rw [hnx] at CS
      have hlen := ladC_length x (modL (ladN bit x (n + 1)))
      have hone := ladC_one x (modL (ladN bit x (n + 1)))
      have szn := szLad (ladC_length x (modL (ladN bit x n)))
      have sz1 := szLad2 hlen
      have q0 := rl.all
      obtain ⟨t, ht⟩ : ∃ t, t = (bj != lb) := ⟨_, rfl⟩
      rw [← ht] at hne CC CS
      clear hS hnx ht hlb
      generalize ladC x (ladIf t (modL (ladN bit x n))) = Lm at CC CS
      have hln := ladC_length x (modL (ladN bit x n))
      generalize ladC x (modL (ladN bit x n)) = Ln at rl CC szn q0 hln
      obtain ⟨Lp, hLp⟩ : ∃ L, L = ladC x (modL (ladN bit x (n + 1))) := ⟨_, rfl⟩
      rw [← hLp] at CS hlen hone sz1
      replace hLp : Hid (Lp = ladC x (modL (ladN bit x (n + 1)))) := hLp
      replace hj : Hid (j = 254 - n) := hj
      replace hbj : Hid (bj = bit j) := hbj
      replace hln : Hid (Ln.length = 20) := hln
      replace hlen : Hid (Lp.length = 20) := hlen
      clear hq hr hu ebt hvb hv hv2 hm hbit HB hR
      go_wp2_with (with_reducible refine wpList_load_mid rfl 90 _ rfl w.heap.size 0 rfl Ln _ q0 Tryz.underlying90 rfl szn ?_)
      refine (CC _).mono ?_
      rintro e w1 ⟨rfl, b1⟩
      go_wp2_with (fail)
      refine (CS _).mono ?_
      rintro e w2 ⟨rfl, b2⟩
      replace rl := (rl.below b1).below b2
      replace rr := (rr.below b1).below b2
      replace bel := below_on (below_on bel b1) b2
      have th := rl.there (o := 0) (m := Lp.toArray.size) (by simp [hlen.out])
      have pp := rl.putAll (B := Lp) (by rw [hlen.out, hln.out])
      replace rr := rr.kept pp.2 (by omega)
      replace bel := bel.grown pp.2 bel.size (fun k hk => by cases hk; exact Nat.le_refl _)
      have rl2 := pp.1
      clear rl pp b1 b2 CC CS q0 cv a1 hne
      go_wp2_with (with_reducible refine wpList_store_mid rfl 90 _ _ rfl w.heap.size 0 Lp.toArray rfl rfl th sz1 (all_oneCell_toArray hone) ?_; (try dsimp only))
      go_step3
      have e5 : 255 - (n + 1) = j := by have := hj.out; omega
      have e6 : lastB bit (n + 1) = bj := by rw [hbj.out, hj.out]; unfold lastB; rw [if_neg (by omega), show 255 - (n + 1) = 254 - n by omega]
      refine ⟨rfl, ⟨n + 1, by omega, by rw [← hLp.out]; exact rl2, rr, bel, _, _, _, _, _, _, _, _, _, _, _, _, _, _, _, _, _, _, _, _, _, _, _, rfl, by rw [e5], by rw [e6]⟩, ?_⟩
      · have h1 := hj.out
        have h2 := hmm.out
        simp [intOf]
        omega
    · obtain rfl : n = 255 := by omega
      have e5 : ((255 - 255 : Nat) : Int) = 0 := rfl
      have e6 : lastB bit 255 = bit 0 := rfl
      rw [e5, e6]
      obtain ⟨b0, hb0⟩ : ∃ b0, b0 = bit 0 := ⟨_, rfl⟩
      rw [← hb0]
      have h1 := bitI_one b0
      have CC : ∀ X, Calls Tryz.prog 97 #[.agg (ladC x (modL (ladN bit x 255))).toArray, .bool b0] X fun e w' => e = .returned (.agg (ladC x (ladIf b0 (modL (ladN bit x 255)))).toArray) ∧ Below X.heap.size X w' := fun X => changed_any x _ _ X
      have hex := ladC_two x (ladIf b0 (modL (ladN bit x 255)))
      have hsw : ladIf b0 (modL (ladN bit x 255)) = modL (ladE bit x) := by
        rw [hb0]
        unfold ladE
        cases bit 0 <;> rfl
      rw [hsw] at hex CC
      rw [← hR.out] at hex
      have q0 := rl.all
      have szn := szLad (ladC_length x (modL (ladN bit x 255)))
      have hlen : LR.length = 8 := by rw [hR.out]; exact ratC_length _
      have hone : ∀ v ∈ LR, v.oneCell' = true := by rw [hR.out]; exact ratC_one _
      have sz1 := szRat2 hlen
      have szr := szRat hlen
      obtain ⟨AM, hAM⟩ : ∃ A, A = (ladC x (modL (ladE bit x))).toArray := ⟨_, rfl⟩
      rw [← hAM] at hex CC
      have hfl : ∀ X, (Instr.field 90 (.agg AM) 1).run Tryz.prog X = .ok (.agg LR.toArray) X := fun X => by rw [field_two, hex]
      clear hex
      clear hAM hsw hb0 e5 e6 hlt hn HK HB hbit hx
      generalize ladC x (modL (ladN bit x 255)) = Ln at rl CC szn q0
      replace hlen : Hid (LR.length = 8) := hlen
      replace hR : Hid (LR = ratC (modL (ladE bit x))) := hR
      go_wp2_with (with_reducible refine wpList_load_mid rfl 90 _ rfl w.heap.size 0 rfl Ln _ q0 Tryz.underlying90 rfl szn ?_)
      refine (CC _).mono ?_
      rintro e w1 ⟨rfl, b1⟩
      replace rr := rr.below b1
      replace bel := below_on bel b1
      have th := rr.there (o := 0) (m := LR.toArray.size) (by simp [hlen.out])
      have pp := rr.putAll (B := LR) (by rw [hlen.out, uV_length])
      replace bel := bel.grown pp.2 bel.size (fun k hk => by cases hk; omega)
      have hld := run_loadVar_mid (P := Tryz.prog) _ _ 0 88 _ _ pp.1.all Tryz.underlying88 rfl szr
      clear rl rr pp b1 CC q0
      go_wp2_with (with_reducible refine wpList_store_mid rfl 88 _ _ rfl Gr 0 LR.toArray rfl rfl th sz1 (all_oneCell_toArray hone) ?_; (try dsimp only))
      (try simp only [Exit.jump])
      refine bodyPost_ret (v := .agg LR.toArray) ?_ rfl ⟨rfl, bel⟩
      simp [results, asAddr, hld]

end Go.Proofs.YtdjdanpicbaieaaGreatDoor
