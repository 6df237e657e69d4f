/-
  What the specification's HashBlock answers, whatever ints and bytes it is given; conditions: a length is an int's, the bytes are bytes.
-/
import Derived.Test.YtdjdanpicbaieaaDoorSpecMore
namespace Go.Proofs.YtdjdanpicbaieaaDoor
open Go.RowKit

/-- The words of ints. -/
def wordsN (ys : List Int) : List Nat := ys.map wordN
theorem wordsN_length (ys : List Int) : (wordsN ys).length = ys.length := by simp [wordsN]
theorem wordsN_lt (ys : List Int) : ∀ x ∈ wordsN ys, x < 4294967296 := by
  intro x hx
  simp only [wordsN, List.mem_map] at hx
  obtain ⟨y, _, rfl⟩ := hx
  exact wordN_lt y
theorem wordsN_getD (ys : List Int) (i : Nat) : (wordsN ys).getD i 0 = wordN (ys.getD i 0) := by
  simp only [wordsN, List.getD_eq_getElem?_getD, List.getElem?_map]
  cases ys[i]? <;> rfl
/-- What HashBlock answers. -/
def hbN (n m : Nat) : Nat := if n = 8 ∧ m = 64 then 8 else 0
def hbL (ys xs : List Int) : List Int := if ys.length = 8 ∧ xs.length = 64 then natsL (blockN (wsOf xs) (wordsN ys)) else []
theorem hb_yes {ys xs : List Int} (h1 : ys.length = 8) (h2 : xs.length = 64) : hbL ys xs = natsL (blockN (wsOf xs) (wordsN ys)) := if_pos ⟨h1, h2⟩

theorem word_is (y : Int) (s : Nat) (h : wordN y = s) (w : World) : Calls Tryd.prog 98 #[.int .i64 y] w fun e w' => e = .returned (.int .i64 (s : Int)) ∧ w' = w := by
  subst h
  rw [wordN_eq]
  exact specWord_same y w

theorem take_next (L : List Int) (k : Nat) (u : Int) (hk : k < L.length) (hu : u = L.getD k 0) : L.take k ++ [u] = L.take (k + 1) := by
  subst hu
  rw [List.take_succ_eq_append_getElem hk]
  simp [List.getElem?_eq_getElem hk]

theorem addL_getD (xs ys : List Nat) (k : Nat) (hk : k < 8) : (addL xs ys).getD k 0 = (xs.getD k 0 + ys.getD k 0) % 4294967296 := by
  simp [addL, hk]

set_option maxRecDepth 100000 in
set_option maxHeartbeats 16000000 in
theorem specHashBlock_yes (p q : Option Addr) (c d : Nat) (ys xs : List Int) (w : World) (hx : xs.length = 64) (h : IntsIn w p 8 ys) (h' : BytesIn w q 64 xs) (hb : ∀ x ∈ xs, 0 ≤ x ∧ x < 256) :
    Calls Tryd.prog 74 #[.slice p 8 c, .slice q 64 d] w fun e w' => ∃ p' c', e = .returned (.slice p' 8 c') ∧ OwnI 3 w' w.heap.size w'.heap.size (.slice p' 8 c') 8 (natsL (blockN (wsOf xs) (wordsN ys))) ∧ Below w.heap.size w w' := by
  obtain ⟨i0, hi, hz0, hz1, hz2⟩ := info_parts infoInt
  have C := fun w h => l3More_any q d xs w hx h hb
  have hWl := spreadN_length (wsOf_length xs)
  have hWt := spreadN_lt (wsOf_lt hb)
  have hblock : Hid (blockN (wsOf xs) (wordsN ys) = addL (wordsN ys) (roundsN (spreadN (wsOf xs)) (stOf (wordsN ys)) 64).list) := rfl
  obtain ⟨L, hL⟩ : ∃ L, L = blockN (wsOf xs) (wordsN ys) := ⟨_, rfl⟩
  rw [← hL] at hblock ⊢
  clear hL
  generalize spreadN (wsOf xs) = W at C hWl hWt hblock
  obtain ⟨b, o, rfl, hcell⟩ := h (by omega)
  have hblt : b < w.heap.size := World.block_lt_of_cell? w ⟨b, o + 0, none⟩ (hcell 0 (by omega))
  have hok := stOf_ok (wordsN_lt ys)
  have hst : Hid (stOf (wordsN ys) = ⟨wordN (ys.getD 0 0), wordN (ys.getD 1 0), wordN (ys.getD 2 0), wordN (ys.getD 3 0), wordN (ys.getD 4 0), wordN (ys.getD 5 0), wordN (ys.getD 6 0), wordN (ys.getD 7 0)⟩) := by
    simp only [Hid, stOf, wordsN_getD]
  go_enter Tryd.func74, Tryd.ntmps74
  go_wp2_with (fail)
  refine (C _ h').mono ?_
  rintro e w1 ⟨p1, c1, rfl, r1, b1⟩
  clear C h'
  go_wp2_with (fail)
  refine (l3Table_any _).mono ?_
  rintro e w2 ⟨p2, c2, rfl, r2, b2⟩
  have bel : Below w.heap.size w w2 := below_on b1 b2
  have inW := (r1.on b2).ints
  have inK := r2.ints
  clear r1 r2 b1 b2
  have hsz := bel.size
  have cs : ∀ i, i < 8 → w2.cell? ⟨b, o + i, none⟩ = some (.int .i64 (ys.getD i 0)) := fun i hi => (bel.cell (p := ⟨b, o + i, none⟩) hblt).trans (hcell i hi)
  have y0 := cs 0 (by omega)
  have y1 := cs 1 (by omega)
  have y2 := cs 2 (by omega)
  have y3 := cs 3 (by omega)
  have y4 := cs 4 (by omega)
  have y5 := cs 5 (by omega)
  have y6 := cs 6 (by omega)
  have y7 := cs 7 (by omega)
  clear cs
  replace hcell : Hid (∀ i, i < 8 → w.cell? ⟨b, o + i, none⟩ = some (.int .i64 (ys.getD i 0))) := hcell
  have cw := fun i => word_is (ys.getD i 0) _ rfl
  have w0' := cw 0
  have w1' := cw 1
  have w2' := cw 2
  have w3' := cw 3
  have w4' := cw 4
  have w5' := cw 5
  have w6' := cw 6
  have w7' := cw 7
  clear cw
  rw [hst.out] at hok
  generalize hs0 : wordN (ys.getD 0 0) = s0 at w0' hst hok
  generalize hs1 : wordN (ys.getD 1 0) = s1 at w1' hst hok
  generalize hs2 : wordN (ys.getD 2 0) = s2 at w2' hst hok
  generalize hs3 : wordN (ys.getD 3 0) = s3 at w3' hst hok
  generalize hs4 : wordN (ys.getD 4 0) = s4 at w4' hst hok
  generalize hs5 : wordN (ys.getD 5 0) = s5 at w5' hst hok
  generalize hs6 : wordN (ys.getD 6 0) = s6 at w6' hst hok
  generalize hs7 : wordN (ys.getD 7 0) = s7 at w7' hst hok
  clear hs0 hs1 hs2 hs3 hs4 hs5 hs6 hs7
  generalize ys.getD 0 0 = z0 at y0 w0'
  generalize ys.getD 1 0 = z1 at y1 w1'
  generalize ys.getD 2 0 = z2 at y2 w2'
  generalize ys.getD 3 0 = z3 at y3 w3'
  generalize ys.getD 4 0 = z4 at y4 w4'
  generalize ys.getD 5 0 = z5 at y5 w5'
  generalize ys.getD 6 0 = z6 at y6 w6'
  generalize ys.getD 7 0 = z7 at y7 w7'
  simp only [Nat.add_zero] at y0
  go_wp2_with (fail)
  go_quiet (first | (go_at_call_of 98 z0; exact Calls.quiet_of_same (w0' _)) | (go_at_call_of 98 z1; exact Calls.quiet_of_same (w1' _)) | (go_at_call_of 98 z2; exact Calls.quiet_of_same (w2' _)) | (go_at_call_of 98 z3; exact Calls.quiet_of_same (w3' _)))
  clear w0' w1' w2' w3' y0 y1 y2 y3
  obtain ⟨w3, hw3⟩ : ∃ w3, w3 = w2.drewN nq := ⟨_, rfl⟩
  rw [← hw3]
  have bq : Below w2.heap.size w2 w3 := by rw [hw3]; exact below_drewN (Below.refl _ _) _
  clear hw3
  have hb2 : b < w2.heap.size := by omega
  replace y4 := (bq.cell (p := ⟨b, o + 4, none⟩) hb2).trans y4
  replace y5 := (bq.cell (p := ⟨b, o + 5, none⟩) hb2).trans y5
  replace y6 := (bq.cell (p := ⟨b, o + 6, none⟩) hb2).trans y6
  replace y7 := (bq.cell (p := ⟨b, o + 7, none⟩) hb2).trans y7
  replace inW := in_belowI inW bq
  replace inK := in_belowI inK bq
  replace bel := below_on bel bq
  clear bq hb2 hsz
  go_wp2_with (fail)
  go_quiet (first | (go_at_call_of 98 z4; exact Calls.quiet_of_same (w4' _)) | (go_at_call_of 98 z5; exact Calls.quiet_of_same (w5' _)) | (go_at_call_of 98 z6; exact Calls.quiet_of_same (w6' _)) | (go_at_call_of 98 z7; exact Calls.quiet_of_same (w7' _)))
  clear w4' w5' w6' w7' y4 y5 y6 y7
  obtain ⟨w4, hw4⟩ : ∃ w4, w4 = w3.drewN nq := ⟨_, rfl⟩
  rw [← hw4]
  have bq2 : Below w3.heap.size w3 w4 := by rw [hw4]; exact below_drewN (Below.refl _ _) _
  clear hw4
  go_wp2_with (fail)
  replace inW := in_belowI inW bq2
  replace inK := in_belowI inK bq2
  replace bel := below_on bel bq2
  have hsz := bel.size
  obtain ⟨bW, oW, rfl, cW⟩ := inW (by omega)
  obtain ⟨bK, oK, rfl, cK⟩ := inK (by omega)
  have hbW : bW < w4.heap.size := World.block_lt_of_cell? w4 ⟨bW, oW + 0, none⟩ (cW 0 (by omega))
  have hbK : bK < w4.heap.size := World.block_lt_of_cell? w4 ⟨bK, oK + 0, none⟩ (cK 0 (by omega))
  have HC : Hid (∀ i, i < 8 → w4.cell? ⟨b, o + i, none⟩ = some (.int .i64 (ys.getD i 0))) := fun i hi => (bel.cell (p := ⟨b, o + i, none⟩) hblt).trans (hcell.out i hi)
  clear inW inK bq2 hcell
  have hr0 : Hid (roundsN W (stOf (wordsN ys)) 0 = ⟨s0, s1, s2, s3, s4, s5, s6, s7⟩) := hst.out
  have hrok : ∀ t, (roundsN W (stOf (wordsN ys)) t).ok := roundsN_ok W (by rw [hst.out]; exact hok)
  clear hst hok
  go_loopw [7, 8, 9, 10, 11, 12, 13, 14, 15] (fun a b c d e f g h i wr => ∃ (t : Nat) (va vb vc vd ve vf vg vh : Nat), t ≤ 64 ∧ i = .int .i64 t ∧ a = .int .i64 va ∧ b = .int .i64 vb ∧ c = .int .i64 vc ∧ d = .int .i64 vd ∧ e = .int .i64 ve ∧ f = .int .i64 vf ∧ g = .int .i64 vg ∧ h = .int .i64 vh ∧ Hid (roundsN W (stOf (wordsN ys)) t = ⟨va, vb, vc, vd, ve, vf, vg, vh⟩) ∧ Below w4.heap.size w4 wr)
    (fun _ _ _ _ _ _ _ _ i _ => 64 - (intOf i).toNat)
  case atStart => exact ⟨0, s0, s1, s2, s3, s4, s5, s6, s7, by omega, rfl, rfl, rfl, rfl, rfl, rfl, rfl, rfl, rfl, hr0, Below.refl _ _⟩
  case round =>
    clear hr0
    obtain ⟨t, va, vb, vc, vd, ve, vf, vg, vh, ht, rfl, rfl, rfl, rfl, rfl, rfl, rfl, rfl, rfl, hr, hbl⟩ := hrel
    have hok := hrok t
    rw [hr.out] at hok
    obtain ⟨o1, o2, o3, o4, o5, o6, o7, o8⟩ := hok
    simp only at o1 o2 o3 o4 o5 o6 o7 o8
    by_cases hlt : t < 64
    · have kc := (hbl.cell (p := ⟨bK, oK + t, none⟩) hbK).trans (cK t hlt)
      have wc := (hbl.cell (p := ⟨bW, oW + t, none⟩) hbW).trans (cW t hlt)
      rw [natsL_getD] at kc wc
      have kl := getD_lt keysL_lt (by decide) t
      have wl := getD_lt hWt (by decide) t
      have HR : Hid (roundsN W (stOf (wordsN ys)) (t + 1) = stepN ⟨va, vb, vc, vd, ve, vf, vg, vh⟩ (keysL.getD t 0) (W.getD t 0)) := by rw [Hid, ← hr.out]; rfl
      simp only [stepN, t1N, t2N] at HR
      generalize keysL.getD t 0 = kt at kc kl HR
      generalize W.getD t 0 = wt at wc wl HR
      have hch := i64_ch o5 o6 o7
      have hmj := i64_maj o1 o2 o3
      have lch := chN_lt (e := ve) o6 o7
      have lmj := majN_lt (a := va) o2 o3
      have C1 := fun w => l3Mix_S1 ve w o5
      have C0 := fun w => l3Mix_S0 va w o1
      have n1 := greatN_lt (a := 6) (b := 11) (c := 25) o5 (by decide) (by decide) (by decide)
      have n0 := greatN_lt (a := 2) (b := 13) (c := 22) o1 (by decide) (by decide) (by decide)
      generalize chN ve vf vg = ch at hch lch HR
      generalize majN va vb vc = mj at hmj lmj HR
      generalize greatN ve 6 11 25 = r1 at C1 n1 HR
      generalize greatN va 2 13 22 = r0 at C0 n0 HR
      obtain ⟨E, hE⟩ : ∃ E : Nat, E = (vd + (vh + r1 + ch + kt + wt)) % 4294967296 := ⟨_, rfl⟩
      obtain ⟨A, hA⟩ : ∃ A : Nat, A = (vh + r1 + ch + kt + wt + (r0 + mj)) % 4294967296 := ⟨_, rfl⟩
      rw [← hE, ← hA] at HR
      have CE : ∀ w, Calls Tryd.prog 98 #[.int .i64 ((vd : Int) + ((vh : Int) + r1 + ch + kt + wt))] w fun e w' => e = .returned (.int .i64 (E : Int)) ∧ w' = w := word_is _ _ (by unfold wordN; omega)
      have CA : ∀ w, Calls Tryd.prog 98 #[.int .i64 ((vh : Int) + r1 + ch + kt + wt + ((r0 : Int) + mj))] w fun e w' => e = .returned (.int .i64 (A : Int)) ∧ w' = w := word_is _ _ (by unfold wordN; omega)
      clear hE hA hr
      go_wp2_with (fail)
      go_quiet ((go_at_call 99; exact Calls.quiet_of (C1 _)))
      go_wp2_with (fail)
      refine (C0 _).mono ?_
      rintro e w3 ⟨rfl, dn, rfl⟩
      go_wp2_with (fail)
      refine (CE _).mono ?_
      rintro e w3 ⟨rfl, rfl⟩
      go_wp2_with (fail)
      refine (CA _).mono ?_
      rintro e w3 ⟨rfl, rfl⟩
      go_wp2
      go_roundw
      case rel => exact ⟨t + 1, A, va, vb, vc, E, ve, vf, vg, by omega, by go_num, rfl, rfl, rfl, rfl, rfl, rfl, rfl, rfl, HR, below_drewN hbl _⟩
      case measure => simp [intOf]; omega
    · have e64 : t = 64 := by omega
      rw [e64] at hr
      clear e64
      rw [hr.out] at hblock
      simp only [St.list] at hblock
      have hblock2 : Hid (L = addL (wordsN ys) [va, vb, vc, vd, ve, vf, vg, vh]) := hblock.out
      clear hblock hr cK cW hrok
      have hLl : L.length = 8 := by rw [hblock2.out, addL_length]
      go_wp2_with (fail)
      obtain ⟨w5, hw5⟩ : ∃ w5, w5 = wr.alloc (.cells #[.int .i64 (va : Int), .int .i64 (vb : Int), .int .i64 (vc : Int), .int .i64 (vd : Int), .int .i64 (ve : Int), .int .i64 (vf : Int), .int .i64 (vg : Int), .int .i64 (vh : Int)] 3) := ⟨_, rfl⟩
      have hnow : OwnI 3 w5 wr.heap.size (wr.heap.size + 1) (.slice (some ⟨wr.heap.size, 0, none⟩) 8 8) 8 (natsL [va, vb, vc, vd, ve, vf, vg, vh]) := by
        rw [hw5]
        exact ownsI_lit wr 3 _ 8 _ (by simp [natsL]) rfl (by unfold maxLen; omega)
      have hb5 : Below w4.heap.size w4 w5 := by rw [hw5]; exact hbl.alloc hbl.size _
      have hs5 : w5.heap.size = wr.heap.size + 1 := by rw [hw5]; simp
      have hG : wr.heap.size < w5.heap.size := by omega
      rw [← hw5]
      clear hw5
      obtain ⟨b0, o0, hp0, hnc⟩ := hnow.ints (by omega)
      simp only [Option.some.injEq, Addr.mk.injEq, and_true] at hp0
      obtain ⟨rfl, rfl⟩ := hp0
      clear hnow
      replace hnc : Hid (∀ i, i < 8 → w5.cell? ⟨wr.heap.size, 0 + i, none⟩ = some (.int .i64 ((natsL [va, vb, vc, vd, ve, vf, vg, vh]).getD i 0))) := hnc
      generalize wr.heap.size = G at hG hnc hs5 ⊢
      rw [← hs5]
      clear hs5
      have HC5 : Hid (∀ i, i < 8 → w5.cell? ⟨b, o + i, none⟩ = some (.int .i64 (ys.getD i 0))) := fun i hi => (hb5.cell (p := ⟨b, o + i, none⟩) (show b < w4.heap.size by omega)).trans (HC.out i hi)
      have bel5 : Below w.heap.size w w5 := below_on bel hb5
      have hsz5 := bel5.size
      have hb5' : b < w5.heap.size := by omega
      have hwl : ∀ x ∈ [va, vb, vc, vd, ve, vf, vg, vh], x < 4294967296 := by
        intro x hx
        simp only [List.mem_cons, List.not_mem_nil, or_false] at hx
        omega
      generalize [va, vb, vc, vd, ve, vf, vg, vh] = now at hblock2 hnc hwl
      clear hbl hb5 HC bel hsz hbW hbK o1 o2 o3 o4 o5 o6 o7 o8 hWl hWt
      go_loopw [21, 22] (fun v i w6 => ∃ k : Nat, k ≤ 8 ∧ i = .int .i64 k ∧ w6.ownsRow w5.heap.size 3 1 v k (((natsL L).take k).map (Value.int .i64)) ∧ Below w5.heap.size w5 w6)
        (fun _ i _ => 8 - (intOf i).toNat)
      case atStart => exact ⟨0, by omega, rfl, World.ownsRow_made w5 #[] 0 (Nat.le_refl _) (by unfold maxLen; omega) rfl, (Below.refl _ _).alloc (Nat.le_refl _) _⟩
      case round =>
        obtain ⟨k, hk, rfl, hown, hbel⟩ := hrel
        have hsz6 := hbel.size
        by_cases hlt : k < 8
        · have cn := (hbel.cell (p := ⟨G, 0 + k, none⟩) hG).trans (hnc.out k hlt)
          have cy := (hbel.cell (p := ⟨b, o + k, none⟩) hb5').trans (HC5.out k hlt)
          rw [natsL_getD, Nat.zero_add] at cn
          have HN : Hid (∀ u : Nat, u = (wordN (ys.getD k 0) + now.getD k 0) % 4294967296 → (natsL L).take k ++ [(u : Int)] = (natsL L).take (k + 1)) := by
            intro u hu
            refine take_next _ _ _ (by rw [natsL_length, hLl]; exact hlt) ?_
            rw [natsL_getD, hblock2.out, addL_getD _ _ _ hlt, wordsN_getD, ← hu]
          have la := getD_lt hwl (by decide) k
          have CY := word_is (ys.getD k 0) _ rfl
          have ls := wordN_lt (ys.getD k 0)
          generalize wordN (ys.getD k 0) = s at HN CY ls
          generalize ys.getD k 0 = y at cy CY
          generalize now.getD k 0 = a at cn la HN
          obtain ⟨u, hu⟩ : ∃ u : Nat, u = (s + a) % 4294967296 := ⟨_, rfl⟩
          replace HN : Hid ((natsL L).take k ++ [(u : Int)] = (natsL L).take (k + 1)) := HN.out u hu
          have CU : ∀ w, Calls Tryd.prog 98 #[.int .i64 ((a : Int) + (s : Int))] w fun e w' => e = .returned (.int .i64 (u : Int)) ∧ w' = w := word_is _ _ (by unfold wordN; omega)
          have q1 : IntKind.i64.wrap ((a : Int) + (s : Int)) = (a : Int) + (s : Int) := by rw [IntKind.wrap_i64]; omega
          clear hu hblock2
          have HK : ∀ w', Below w5.heap.size wr w' → w'.cell? ⟨G, k, none⟩ = some (.int .i64 (a : Int)) ∧ w'.cell? ⟨b, o + k, none⟩ = some (.int .i64 y) := fun w' hB => ⟨(hB.cell (p := ⟨G, k, none⟩) hG).trans cn, (hB.cell (p := ⟨b, o + k, none⟩) hb5').trans cy⟩
          go_wp2_with (fail)
          go_region_held3 (fun w' => w'.cell? ⟨G, k, none⟩ = some (.int .i64 (a : Int)) ∧ w'.cell? ⟨b, o + k, none⟩ = some (.int .i64 y)) (first | exact HK _ (Below.refl _ _) | exact HK _ (Below.refl _ _).drew | exact HK _ ((Below.refl _ _).drew.alloc hsz6 _) | exact HK _ ((Below.refl _ _).alloc hsz6 _) | exact HK _ ((Below.refl _ _).alloc hsz6 _).drew | exact HK _ hb1 | exact HK _ hb1.drew)
            (first | (go_at_call_of 98 y; refine (CY _).mono ?_; rintro e w7 ⟨rfl, rfl⟩) | (go_at_call_of 98 a; refine (CU _).mono ?_; rintro e w7 ⟨rfl, rfl⟩) | (refine step_pushI hi hz0 hz1 hz2 (.tmp 138) (.tmp 150) 88 Tryd.underlying88 _ hown (by omega) hsz6 (by rfl) (by rfl) (by rfl) (by rfl) ?_; intro g cap w8 ho1 hb1))
          rw [HN.out] at ho1
          go_wp2
          go_roundw
          case rel => exact ⟨k + 1, by omega, by go_num, ho1, hbel.trans hb1⟩
          case measure => simp [intOf]; omega
        · obtain rfl : k = 8 := by omega
          rw [List.take_of_length_le (by rw [natsL_length]; omega)] at hown
          obtain ⟨p', c', hv⟩ := owns_form hown
          subst hv
          go_wp2
          go_ret
          exact ⟨_, _, rfl, .of (owns_mono hown hsz5), below_on bel5 hbel⟩

end Go.Proofs.YtdjdanpicbaieaaDoor
