/-
  A part of the proof.
-/
import Derived.Test.YthjapmdikbmmkaaDoorParz28
import Derived.Test.YthjapmdikbmmkaaDoorParz25
import Derived.Test.YthjapmdikbmmkaaDoorParz26
import Derived.Test.YthjapmdikbmmkaaDoorParz12
namespace Go.Proofs.YthjapmdikbmmkaaDoor
open Go.RowKit
set_option maxRecDepth 100000
theorem four_results {fn : Func} {t u v x : Tmp} (h : fn.results = #[.tmp t, .tmp u, .tmp v, .tmp x]) (tmps : Array Value) (P : Program) (w : World) :
    (results fn tmps).run P w = .ok (.tuple #[tmps.getD t undef, tmps.getD u undef, tmps.getD v undef, tmps.getD x undef]) w := by
  simp [results, h]
set_option maxHeartbeats 2000000 in
theorem l1Below_wide (a : Nat) (p : Option Addr) (n c : Nat) (xs : List Int) (m : Int) (w : World) (hm : 1 ≤ m) (hm2 : m ≤ 65536) (hcur : Cur w a p n c xs) :
    Calls Tryd.prog 31 #[.pointer (some ⟨a, 0, none⟩), .int .i64 m] w fun e w' => ∃ x : Int, e = .returned (.int .i64 x) ∧ 0 ≤ x ∧ x < m ∧ Cur w' a p n c xs ∧ w.grownBy w' (some a) := by
  by_cases h256 : m ≤ 256
  · exact l1Below_any a p n c xs m w hm h256 hcur
  have c1 : ¬ m ≤ 0 := by omega
  have hz : (m == 0) = false := by simp; omega
  go_enter Tryd.func31, Tryd.ntmps31
  go_wp2_with (fail)
  refine (l1Byte_any a p n c xs _ hcur).mono ?_
  rintro e w1 ⟨x, rfl, hx0, hx1, hc1, g1⟩
  go_wp2_with (fail)
  refine (l1Byte_any a p n c xs _ hc1).mono ?_
  rintro e w2 ⟨y, rfl, hy0, hy1, hc2, g2⟩
  go_wp2_with (fail)
  refine (l1Byte_any a p n c xs _ hc2).mono ?_
  rintro e w3 ⟨z, rfl, hz0, hz1, hc3, g3⟩
  go_wp2_with (fail)
  refine (l1Byte_any a p n c xs _ hc3).mono ?_
  rintro e w4 ⟨u, rfl, hu0, hu1, hc4, g4⟩
  go_wp2_with (fail)
  go_ret
  exact ⟨_, rfl, Int.emod_nonneg _ (by omega), Int.emod_lt_of_pos _ (by omega), hc4, grown_trans (grown_trans (grown_trans g1 g2) g3) g4⟩
def Four (w' : World) (lo : Nat) (v : Value) (k1 k2 k3 k4 : Nat) (ys zs us vs : List Int) : Prop := ∃ p1 c1 p2 c2 p3 c3 p4 c4, v = .tuple #[.slice p1 k1 c1, .slice p2 k2 c2, .slice p3 k3 c3, .slice p4 k4 c4] ∧
  Own 5 w' lo w'.heap.size (.slice p1 k1 c1) k1 ys ∧ Own 5 w' lo w'.heap.size (.slice p2 k2 c2) k2 zs ∧ Own 5 w' lo w'.heap.size (.slice p3 k3 c3) k3 us ∧ Own 5 w' lo w'.heap.size (.slice p4 k4 c4) k4 vs
structure Fits7 (k1 k2 k3 k4 : Nat) (ys zs us vs : List Int) : Prop where
  l1 : k1 ≤ 1000
  l2 : k2 ≤ 1000
  l3 : k3 ≤ 255
  l4 : k4 ≤ 1516
  b1 : ∀ y ∈ ys, 0 ≤ y ∧ y < 256
  b2 : ∀ y ∈ zs, 0 ≤ y ∧ y < 256
  b3 : ∀ y ∈ us, 0 ≤ y ∧ y < 256
  b4 : ∀ y ∈ vs, 0 ≤ y ∧ y < 256
set_option maxHeartbeats 8000000 in
theorem l7Draw_any (a : Nat) (p : Option Addr) (n c : Nat) (xs : List Int) (w : World) (hcur : Cur w a p n c xs) :
    Calls Tryd.prog 22 #[.pointer (some ⟨a, 0, none⟩)] w fun e w' => ∃ v k1 k2 k3 k4 ys zs us vs, e = .returned v ∧ Four w' w.heap.size v k1 k2 k3 k4 ys zs us vs ∧ Fits7 k1 k2 k3 k4 ys zs us vs ∧ Cur w' a p n c xs ∧ w.grownBy w' (some a) := by
  obtain ⟨i0, hi, hz0, hz1, hz2⟩ := info_parts infoByte
  have ha := hcur.lt
  have CN := l1DrawNear_any a p n c xs 32 w (by omega) (by omega) hcur
  go_enter Tryd.func22, Tryd.ntmps22
  go_wp2_with (fail)
  refine CN.mono ?_
  rintro e w1 ⟨p1, k1, c1, ys, rfl, hk1, o1, hys, hc1, g1⟩
  clear CN
  have CM := l1DrawNear_any a p n c xs 12 w1 (by omega) (by omega) hc1
  have z1 := g1.size
  go_wp2_with (fail)
  refine CM.mono ?_
  rintro e w2 ⟨p2, k2, c2, zs, rfl, hk2, o2, hzs, hc2, g2⟩
  clear CM
  have q1 := o1.cur g2 ha
  have z2 := g2.size
  have G2 := grown_trans g1 g2
  clear o1 g1 g2 hc1
  go_wp2_with (fail)
  refine (l1DrawBytes_any a p n c xs 20 _ (by omega) (by omega) hc2).mono ?_
  rintro e w3 ⟨p3, k3, c3, us, rfl, hk3, o3, hus, hc3, g3⟩
  have s1 := q1.cur g3 ha
  have s2 := o2.cur g3 (by omega)
  have z3 := g3.size
  have G3 := grown_trans G2 g3
  clear q1 o2 G2 g3 hc2
  go_wp2_with (fail)
  refine (l1DrawBytes_any a p n c xs 70 _ (by omega) (by omega) hc3).mono ?_
  rintro e w4 ⟨p4, k4, c4, vs, rfl, hk4, o4, hvs, hc4, g4⟩
  have t1 := s1.cur g4 ha
  have t2 := s2.cur g4 (by omega)
  have t3 := o3.cur g4 (by omega)
  have z4 := g4.size
  have G4 := grown_trans G3 g4
  clear s1 s2 o3 G3 g4 hc3
  go_wp2_with (fail)
  refine (l1Once_any a p n c xs 60 _ (by omega) (by omega) hc4).mono ?_
  rintro e w5 ⟨b, rfl, hc5, g5⟩
  have r1 := t1.cur g5 ha
  have r2 := t2.cur g5 (by omega)
  have r3 := t3.cur g5 (by omega)
  have r4 := o4.cur g5 (by omega)
  have z5 := g5.size
  have G5 := grown_trans G4 g5
  clear t1 t2 t3 o4 G4 g5 hc4
  cases b
  · go_wp2_with (fail)
    (try simp only [Exit.inBlock, Exit.then])
    refine bodyPost_ret (four_results rfl _ _ _) rfl ?_
    exact ⟨_, k1, k2, k3, k4, ys, zs, us, vs, rfl, ⟨_, _, _, _, _, _, _, _, rfl, r1.mono (by omega) (by omega), r2.mono (by omega) (by omega), r3.mono (by omega) (by omega), r4.mono (by omega) (by omega)⟩, ⟨hk1, hk2, by omega, by omega, hys, hzs, hus, hvs⟩, hc5, G5⟩
  · go_wp2_with (fail)
    refine (l1Below_any a p n c xs 2 _ (by omega) (by omega) hc5).mono ?_
    rintro e w6 ⟨x, rfl, hx0, hx1, hc6, g6⟩
    have u1 := r1.cur g6 ha
    have u2 := r2.cur g6 (by omega)
    have u3 := r3.cur g6 (by omega)
    have z6 := g6.size
    have G6 := grown_trans G5 g6
    obtain ⟨Z, hZ⟩ : ∃ Z : Nat, (1500 : Int) + x = (Z : Int) := ⟨(1500 + x).toNat, by omega⟩
    have hZl : Z ≤ 1501 := by omega
    have mk := makeB Z (by omega) w6
    have own := madeB_own w6 w.heap.size Z (by omega) (by omega)
    have mb : Below w6.heap.size w6 (w6.alloc (.cells (madeCells #[.int .u8 0] Z) 5)) := (Below.refl _ _).alloc (Nat.le_refl _) _
    have v1 := u1.on mb
    have v2 := u2.on mb
    have v3 := u3.on mb
    have hc7 := hc6.below mb hc6.lt hc6.code_lt
    have G7 := grown_trans G6 (World.grownBy_alloc w6 (.cells (madeCells #[.int .u8 0] Z) 5) (some a))
    have z7 := mb.size
    have hZ0 : (0 : Int) ≤ (Z : Int) := by omega
    clear r1 r2 r3 r4 u1 u2 u3 G5 G6 g6 hc5 hc6 hx0 hx1 mb
    go_wp2_with (fail)
    (try simp only [Exit.inBlock, Exit.then])
    refine bodyPost_ret (four_results rfl _ _ _) rfl ?_
    exact ⟨_, k1, k2, k3, Z, ys, zs, us, List.replicate Z 0, rfl, ⟨_, _, _, _, _, _, _, _, rfl, v1.mono (by omega) (by omega), v2.mono (by omega) (by omega), v3.mono (by omega) (by omega), .of own⟩, ⟨hk1, hk2, by omega, by omega, hys, hzs, hus, nought_byte Z⟩, hc7, G7⟩
set_option maxHeartbeats 4000000 in
theorem specSeal_none (kp np ap bp : Option Addr) (kn kc nn nc an ac bn bc : Nat) (w : World) (hno : ¬ SizesOk kn nn an bn) :
    Calls Tryd.prog 9 #[.slice kp kn kc, .slice np nn nc, .slice ap an ac, .slice bp bn bc] w fun e w' => ∃ p' c', e = .returned (.tuple #[.slice p' 0 c', .bool false]) ∧ Own 5 w' w.heap.size w'.heap.size (.slice p' 0 c') 0 [] ∧ Below w.heap.size w w' := by
  have own : Own 5 (w.alloc (.cells #[] 5)) w.heap.size (w.alloc (.cells #[] 5)).heap.size (.slice (some ⟨w.heap.size, 0, none⟩) 0 0) 0 [] := .of (World.ownsRow_made w #[] 0 (Nat.le_refl _) (by unfold maxLen; omega) rfl)
  have mb : Below w.heap.size w (w.alloc (.cells #[] 5)) := (Below.refl _ w).alloc (Nat.le_refl _) _
  by_cases h1 : kn = 32
  · by_cases h2 : nn = 12
    · by_cases h3 : an ≤ 1500
      · have h4 : ¬ (bn : Int) ≤ 1500 := fun h => hno ⟨h1, h2, h3, by omega, h⟩
        have h3' : (an : Int) ≤ 1500 := by omega
        subst h1 h2
        clear hno h3
        go_enter Tryd.func9, Tryd.ntmps9
        go_wp2
        go_ret2
        first | exact ⟨_, _, rfl, own, mb⟩ | exact ⟨own, mb⟩
      · have h3' : ¬ (an : Int) ≤ 1500 := by omega
        subst h1 h2
        clear hno h3
        go_enter Tryd.func9, Tryd.ntmps9
        go_wp2
        go_ret2
        first | exact ⟨_, _, rfl, own, mb⟩ | exact ⟨own, mb⟩
    · have h2' : ¬ (nn : Int) = 12 := by omega
      subst h1
      clear hno h2
      go_enter Tryd.func9, Tryd.ntmps9
      go_wp2
      go_ret2
      first | exact ⟨_, _, rfl, own, mb⟩ | exact ⟨own, mb⟩
  · have h1' : ¬ (kn : Int) = 32 := by omega
    clear hno h1
    go_enter Tryd.func9, Tryd.ntmps9
    go_wp2
    go_ret2
    first | exact ⟨_, _, rfl, own, mb⟩ | exact ⟨own, mb⟩
theorem sealX_len {kn nn an bn : Nat} {KS NS AS BS : List Int} (hK : KS.length = kn) (hN : NS.length = nn) (hA : AS.length = an) (hB : BS.length = bn) : (sealX kn nn an bn KS NS AS BS).length = sealN kn nn an bn := by
  unfold sealX sealN
  split
  · rename_i h
    exact seaL_length (hK.trans h.1) (hN.trans h.2.1) hA hB h.2.2.1 h.2.2.2
  · rfl
theorem sealX_low (kn nn an bn : Nat) (KS NS AS BS : List Int) : ∀ x ∈ sealX kn nn an bn KS NS AS BS, 0 ≤ x ∧ x < 256 := by
  unfold sealX
  split
  · exact seaL_low _ _ _ _
  · exact fun x hx => by cases hx
theorem specSeal_o (kp np ap bp : Option Addr) (kn kc nn nc an ac bn bc : Nat) (KS NS AS BS : List Int) (w : World) (hK : KS.length = kn) (hN : NS.length = nn) (hA : AS.length = an) (hB : BS.length = bn) (hbc : bn ≤ bc) (ik : BytesIn w kp kn KS) (im : BytesIn w np nn NS) (ia : BytesIn w ap an AS) (ib : BytesIn w bp bn BS)
    (bk : ∀ x ∈ KS, 0 ≤ x ∧ x < 256) (bm : ∀ x ∈ NS, 0 ≤ x ∧ x < 256) (ba : ∀ x ∈ AS, 0 ≤ x ∧ x < 256) :
    Calls Tryd.prog 9 #[.slice kp kn kc, .slice np nn nc, .slice ap an ac, .slice bp bn bc] w fun ex w2 => ∃ p c, ex = .returned (.tuple #[.slice p (sealN kn nn an bn) c, .bool (sealB kn nn an bn)]) ∧ Own 5 w2 w.heap.size w2.heap.size (.slice p (sealN kn nn an bn) c) (sealN kn nn an bn) (sealX kn nn an bn KS NS AS BS) ∧ Below w.heap.size w w2 := by
  by_cases hok : kn = 32 ∧ nn = 12 ∧ an ≤ 1500 ∧ bn ≤ 1500
  · simp only [sealN, sealB, sealX, if_pos hok, decide_eq_true hok]
    obtain ⟨h1, h2, h3, h4⟩ := hok
    subst h1 h2
    exact specSeal_yes kp np ap bp kc nc an ac bn bc KS NS AS BS w hK hN hA hB h3 h4 hbc ik im ia ib bk bm ba
  · simp only [sealN, sealB, sealX, if_neg hok, decide_eq_false hok]
    exact specSeal_none kp np ap bp kn kc nn nc an ac bn bc w (fun h => hok ((sizes_iff _ _ _ _).1 h))
set_option maxHeartbeats 4000000 in
theorem dSeal (p : Option Addr) (n c : Nat) (xs : List Int) (w : World) (hn : n ≤ 1048576) (hx : xs.length = n) (hb : BytesIn w p n xs) (hr : ∀ x ∈ xs, 0 ≤ x ∧ x < 256) :
    Calls Tryd.prog 7 #[.slice p n c] w fun e w' => ∃ v k1 k2 k3 k4 ys zs us vs, e = .returned v ∧ Four w' w.heap.size v k1 k2 k3 k4 ys zs us vs ∧ Fits7 k1 k2 k3 k4 ys zs us vs ∧ Below w.heap.size w w' := by
  go_enter Tryd.func7, Tryd.ntmps7
  go_wp2_with (fail)
  refine (l1New_any p n c xs _ hn hx hb hr).mono ?_
  rintro e w1 ⟨a, rfl, ha, ha1, hc1, b1⟩
  go_wp2_with (fail)
  refine (l7Draw_any a p n c xs _ hc1).mono ?_
  rintro e w2 ⟨v, k1, k2, k3, k4, ys, zs, us, vs, rfl, ⟨p1, c1, p2, c2, p3, c3, p4, c4, rfl, o1, o2, o3, o4⟩, hf, hc2, g2⟩
  have bel2 := below_cur b1 g2 ha
  have z1 := b1.size
  go_wp2_with (fail)
  refine bodyPost_ret (four_results rfl _ _ _) rfl ?_
  exact ⟨_, k1, k2, k3, k4, ys, zs, us, vs, rfl, ⟨_, _, _, _, _, _, _, _, rfl, o1.mono z1 (Nat.le_refl _), o2.mono z1 (Nat.le_refl _), o3.mono z1 (Nat.le_refl _), o4.mono z1 (Nat.le_refl _)⟩, hf, bel2⟩
set_option maxHeartbeats 4000000 in
theorem dTagText (p : Option Addr) (n c : Nat) (xs : List Int) (w : World) (hn : n ≤ 1048576) (hx : xs.length = n) (hb : BytesIn w p n xs) (hr : ∀ x ∈ xs, 0 ≤ x ∧ x < 256) :
    Calls Tryd.prog 13 #[.slice p n c] w fun e w' => ∃ p1 k1 c1 ys p2 k2 c2 zs, e = .returned (.tuple #[.slice p1 k1 c1, .slice p2 k2 c2]) ∧ k1 ≤ 34 ∧ k2 ≤ 34 ∧ Own 5 w' w.heap.size w'.heap.size (.slice p1 k1 c1) k1 ys ∧ Own 5 w' w.heap.size w'.heap.size (.slice p2 k2 c2) k2 zs ∧ (∀ y ∈ ys, 0 ≤ y ∧ y < 256) ∧ (∀ y ∈ zs, 0 ≤ y ∧ y < 256) ∧ Below w.heap.size w w' := by
  go_enter Tryd.func13, Tryd.ntmps13
  go_wp2_with (fail)
  refine (l1New_any p n c xs _ hn hx hb hr).mono ?_
  rintro e w1 ⟨a, rfl, ha, ha1, hc1, b1⟩
  go_wp2_with (fail)
  refine (l1DrawBytes_any a p n c xs 34 _ (by omega) (by omega) hc1).mono ?_
  rintro e w2 ⟨g2, k2, c2, ys, rfl, hk2, o2, hys, hc2, gg2⟩
  have bel2 := below_cur b1 gg2 ha
  have z1 := b1.size
  go_wp2_with (fail)
  refine (l1DrawBytes_any a p n c xs 34 _ (by omega) (by omega) hc2).mono ?_
  rintro e w3 ⟨g3, k3, c3, zs, rfl, hk3, o3, hzs, hc3, gg3⟩
  have q2 := o2.cur gg3 ha1
  have bel3 := below_cur bel2 gg3 ha
  have z2 := bel2.size
  go_wp2_with (fail)
  go_ret2
  exact ⟨_, _, _, ys, _, _, _, zs, rfl, by omega, by omega, q2.mono z1 gg3.size, o3.mono z2 (Nat.le_refl _), hys, hzs, bel3⟩
theorem own_none {e : Nat} {w : World} {lo hi : Nat} {p : Option Addr} {n c : Nat} {xs : List Int} (h : Own e w lo hi (.slice p n c) n xs) : p = none → c = 0 := fun hp => by
  subst hp
  rcases h.1.2 with ⟨h1, _⟩ | ⟨g, cap, cur, h1, _⟩
  · cases h1; rfl
  · cases h1
theorem own_some {e : Nat} {w : World} {lo hi : Nat} {p : Option Addr} {n c : Nat} {xs : List Int} (h : Own e w lo hi (.slice p n c) n xs) (h0 : 0 < n) : ∃ g, p = some ⟨g, 0, none⟩ := by
  rcases h.1.2 with ⟨_, h1⟩ | ⟨g, cap, cur, h1, _⟩
  · omega
  · cases h1; exact ⟨g, rfl⟩
set_option maxHeartbeats 8000000 in
theorem dOpen (p : Option Addr) (n c : Nat) (xs : List Int) (w : World) (hn : n ≤ 1048576) (hx : xs.length = n) (hb : BytesIn w p n xs) (hr : ∀ x ∈ xs, 0 ≤ x ∧ x < 256) :
    Calls Tryd.prog 10 #[.slice p n c] w fun e w' => ∃ v k1 k2 k3 k4 ys zs us vs, e = .returned v ∧ Four w' w.heap.size v k1 k2 k3 k4 ys zs us vs ∧ Fits7 k1 k2 k3 k4 ys zs us vs ∧ Below w.heap.size w w' := by
  obtain ⟨i0, hi, hz0, hz1, hz2⟩ := info_parts infoByte
  go_enter Tryd.func10, Tryd.ntmps10
  go_wp2_with (fail)
  refine (l1New_any p n c xs _ hn hx hb hr).mono ?_
  rintro e w1 ⟨a, rfl, ha, ha1, hc1, b1⟩
  go_wp2_with (fail)
  refine (l7Draw_any a p n c xs _ hc1).mono ?_
  rintro e w2 ⟨v, k1, k2, k3, k4, ys, zs, us, vs, rfl, ⟨p1, c1, p2, c2, p3, c3, p4, c4, rfl, o1, o2, o3, o4⟩, hf, hc2, g2⟩
  have bel2 := below_cur b1 g2 ha
  have z1 := b1.size
  have hNl := sealN_le k1 k2 k3 k4
  have hXl := sealX_len o1.len o2.len o3.len o4.len
  have hXb := sealX_low k1 k2 k3 k4 ys zs us vs
  have CS := specSeal_o p1 p2 p3 p4 k1 c1 k2 c2 k3 c3 k4 c4 ys zs us vs _ o1.len o2.len o3.len o4.len o4.cap o1.bytes o2.bytes o3.bytes o4.bytes hf.b1 hf.b2 hf.b3
  generalize sealN k1 k2 k3 k4 = N at CS hNl hXl
  generalize sealX k1 k2 k3 k4 ys zs us vs = X at CS hXl hXb
  generalize sealB k1 k2 k3 k4 = B at CS
  have hNi : (N : Int) ≤ 1516 := by omega
  go_wp2_with (fail)
  refine CS.mono ?_
  rintro e w3 ⟨px, cx, rfl, ox, b3⟩
  clear CS
  have q1 := o1.on b3
  have q2 := o2.on b3
  have q3 := o3.on b3
  have z2 := b3.size
  have la2 := hc2.lt
  have hc3 := hc2.below b3 hc2.lt hc2.code_lt
  have bel3 := below_on bel2 b3
  clear o1 o2 o3 o4 hc1 hc2 b3 bel2 g2 b1
  go_wp2_with (fail)
  refine (l1Below_any a p n c xs 6 _ (by omega) (by omega) hc3).mono ?_
  rintro e w4 ⟨t, rfl, ht0, ht1, hc4, g4⟩
  have r1 := q1.cur g4 ha1
  have r2 := q2.cur g4 ha1
  have r3 := q3.cur g4 ha1
  have rx := ox.cur g4 la2
  have z4 := g4.size
  have bel4 := below_cur bel3 g4 ha
  clear q1 q2 q3 ox hc3 g4 bel3
  have cx0 := rx.cap
  have hpx := own_none rx
  by_cases t0 : t = 0
  · subst t0
    have bd : Below w4.heap.size w4 w4.drew := (Below.refl _ _).drew
    have cd := hc4.below bd hc4.lt hc4.code_lt
    have s1 := r1.on bd
    have s2 := r2.on bd
    have s3 := r3.on bd
    have sx := rx.on bd
    have bel5 := below_on bel4 bd
    have zd := bd.size
    clear r1 r2 r3 rx hc4 bel4
    have hw : IntKind.i64.wrap ((N : Int) + 1) = (N : Int) + 1 := by simp only [IntKind.wrap, IntKind.bits, IntKind.signed]; simp; omega
    go_wp2_with (fail)
    go_region_held3 (fun _ => True) (trivial) (first | (go_at_call 31; refine (l1Below_wide a p n c xs _ _ (by first | omega | (rw [hw]; omega)) (by first | omega | (rw [hw]; omega)) cd).mono ?_; rintro e w5 ⟨z, rfl, zz0, zz1, hc5, g5⟩; (try rw [hw] at zz1); obtain ⟨Z, rfl⟩ : ∃ Z : Nat, z = Z := ⟨z.toNat, by omega⟩; have sl := slice_to px N cx Z (by omega) hpx))
    all_goals
      have u1 := s1.cur g5 ha1
      have u2 := s2.cur g5 ha1
      have u3 := s3.cur g5 ha1
      have ux := (sx.cur g5 la2).take (k := Z) (by omega)
      have z5 := g5.size
      have bel6 := below_cur bel5 g5 ha
      go_wp2_with (fail)
      refine bodyPost_ret (four_results rfl _ _ _) rfl ?_
      exact ⟨_, k1, k2, k3, Z, ys, zs, us, X.take Z, rfl, ⟨_, _, _, _, _, _, _, _, rfl, u1.mono z1 (by omega), u2.mono z1 (by omega), u3.mono z1 (by omega), ux.mono (by omega) (by omega)⟩, ⟨hf.l1, hf.l2, hf.l3, by omega, hf.b1, hf.b2, hf.b3, fun y hy => hXb y (List.mem_of_mem_take hy)⟩, bel6⟩
  · have t0' : (t == 0) = false := by simpa using t0
    by_cases t1 : t = 1
    · subst t1
      by_cases hN0 : 0 < N
      · have hN0' : (0 : Int) < (N : Int) := by omega
        obtain ⟨gx, rfl⟩ := own_some rx hN0
        obtain ⟨j, rfl⟩ : ∃ j, N = j + 1 := ⟨N - 1, by omega⟩
        have hj : ((j + 1 : Nat) : Int) - 1 = (j : Int) := by omega
        have hj1 : (j : Int) < ((j + 1 : Nat) : Int) := by omega
        obtain ⟨u, hXj⟩ : ∃ u, X[j]? = some u := ⟨_, List.getElem?_eq_getElem (by omega)⟩
        have e1 : w4.cell? ⟨gx, j, none⟩ = some (.int .u8 (u)) := by
          rw [rx.1.cellAt j (by omega), List.getElem?_map, hXj]
          rfl
        have hbj := hXb u (List.mem_of_getElem? hXj)
        have hfr := rx.1.frozenAt j
        have st := rx.1.stored j (.int .u8 (bits .xor .u8 (u) 4))
        rw [← List.map_set (f := Value.int .u8)] at st
        obtain ⟨st1, st2⟩ := st
        have b5 : Below w.heap.size w (w4.setCell ⟨gx, j, none⟩ (.int .u8 (bits .xor .u8 (u) 4))) := bel4.grown st2 bel4.size fun k hk => by
          cases hk
          exact Nat.le_trans (by omega) (rx.1.lt gx rfl).1
        have hgx := (rx.1.lt gx rfl).1
        have f1 := r1.far (u := .slice (some ⟨gx, 0, none⟩) (j + 1) cx) st2 rx (.inl (by omega))
        have f2 := r2.far (u := .slice (some ⟨gx, 0, none⟩) (j + 1) cx) st2 rx (.inl (by omega))
        have f3 := r3.far (u := .slice (some ⟨gx, 0, none⟩) (j + 1) cx) st2 rx (.inl (by omega))
        have fx := Own.of st1
        have hXs : ∀ y ∈ X.set j (bits .xor .u8 (u) 4), 0 ≤ y ∧ y < 256 := fun y hy => by
          rcases List.mem_or_eq_of_mem_set hy with h | h
          · exact hXb y h
          · rw [h]
            simp only [bits, IntKind.wrap, IntKind.bits, IntKind.signed]
            exact ⟨by simp; omega, by simp; omega⟩
        have z5 := st2.size
        clear rx r1 r2 r3 st1 st2 hXj
        go_wp2_with (fail)
        refine bodyPost_ret (four_results rfl _ _ _) rfl ?_
        exact ⟨_, k1, k2, k3, j + 1, ys, zs, us, _, rfl, ⟨_, _, _, _, _, _, _, _, rfl, f1.mono z1 (by omega), f2.mono z1 (by omega), f3.mono z1 (by omega), fx.mono (by omega) (Nat.le_refl _)⟩, ⟨hf.l1, hf.l2, hf.l3, by omega, hf.b1, hf.b2, hf.b3, hXs⟩, b5⟩
      · have hN0' : ¬ (0 : Int) < (N : Int) := by omega
        go_wp2_with (fail)
        refine bodyPost_ret (four_results rfl _ _ _) rfl ?_
        exact ⟨_, k1, k2, k3, N, ys, zs, us, X, rfl, ⟨_, _, _, _, _, _, _, _, rfl, r1.mono z1 (by omega), r2.mono z1 (by omega), r3.mono z1 (by omega), rx.mono (by omega) (by omega)⟩, ⟨hf.l1, hf.l2, hf.l3, by omega, hf.b1, hf.b2, hf.b3, hXb⟩, bel4⟩
    · have t1' : (t == 1) = false := by simpa using t1
      go_wp2_with (fail)
      refine bodyPost_ret (four_results rfl _ _ _) rfl ?_
      exact ⟨_, k1, k2, k3, N, ys, zs, us, X, rfl, ⟨_, _, _, _, _, _, _, _, rfl, r1.mono z1 (by omega), r2.mono z1 (by omega), r3.mono z1 (by omega), rx.mono (by omega) (by omega)⟩, ⟨hf.l1, hf.l2, hf.l3, by omega, hf.b1, hf.b2, hf.b3, hXb⟩, bel4⟩
end Go.Proofs.YthjapmdikbmmkaaDoor
namespace Go.Proofs.YthjapmdikbmmkaaDoor
open Go Go.RowKit
set_option maxRecDepth 100000
theorem same_yes (p q : Option Addr) (n m c d : Nat) (xs ys : List Int) (w : World) (hx : xs.length = n) (hy : ys.length = m) (h : BytesIn w p n xs) (h' : BytesIn w q m ys) (e : xs = ys) :
    Calls Tryd.prog 14 #[.slice p n c, .slice q m d] w fun e w' => e = .returned (.bool true) ∧ Below w.heap.size w w' := by
  have := implSame_any p q n m c d xs ys w hx hy h h'
  rw [e] at this
  simpa using this
theorem strT_twice {KS NS BS : List Int} (hK : KS.length = 32) (hN : NS.length = 12) (hB : BS.length ≤ 1500) (hb : ∀ x ∈ BS, 0 ≤ x ∧ x < 256) : strT KS 1 NS (strT KS 1 NS BS) = BS := by
  have g1 : GoodT KS.length NS.length BS.length 1 := ⟨hK, hN, by omega, by omega, by omega⟩
  have g2 : GoodT KS.length NS.length (strT KS 1 NS BS).length 1 := by rw [strT_length]; exact g1
  rw [← good_ok g2, ← good_ok g1]
  exact strS_twice g1 hb
section
variable {kn nn an bn : Nat} {KS NS AS BS : List Int}
theorem sea_take (hB : BS.length = bn) : (seaL KS NS AS BS).take bn = strT KS 1 NS BS := by
  have h : (strT KS 1 NS BS).length = bn := by rw [strT_length]; exact hB
  rw [seaL, List.take_append_of_le_length (by omega)]
  exact List.take_of_length_le (by omega)
theorem sea_drop (hB : BS.length = bn) : (seaL KS NS AS BS).drop bn = stL KS NS AS (strT KS 1 NS BS) := by
  have h : (strT KS 1 NS BS).length = bn := by rw [strT_length]; exact hB
  rw [seaL, List.drop_append_of_le_length (by omega), List.drop_eq_nil_of_le (by omega)]
  rfl
theorem seal_opens (hok : kn = 32 ∧ nn = 12 ∧ an ≤ 1500 ∧ bn ≤ 1500) (hB : BS.length = bn) : OpenOk kn nn an (bn + 16) KS NS AS (seaL KS NS AS BS) := by
  obtain ⟨h1, h2, h3, h4⟩ := hok
  refine ⟨⟨h1, h2, h3, by omega, by omega⟩, ?_⟩
  rw [Nat.add_sub_cancel, sea_take hB, sea_drop hB]
theorem seal_opens_x (hok : kn = 32 ∧ nn = 12 ∧ an ≤ 1500 ∧ bn ≤ 1500) (hK : KS.length = kn) (hN : NS.length = nn) (hB : BS.length = bn) (hb : ∀ x ∈ BS, 0 ≤ x ∧ x < 256) : openN kn nn an (bn + 16) KS NS AS (seaL KS NS AS BS) = bn ∧ openB kn nn an (bn + 16) KS NS AS (seaL KS NS AS BS) = true ∧ openX kn nn an (bn + 16) KS NS AS (seaL KS NS AS BS) = BS := by
  have h := seal_opens (KS := KS) (NS := NS) (AS := AS) hok hB
  refine ⟨by simp only [openN, if_pos h]; omega, decide_eq_true h, ?_⟩
  simp only [openX, if_pos h]
  rw [Nat.add_sub_cancel, sea_take hB, strT_twice (hK.trans hok.1) (hN.trans hok.2.1) (by omega) hb]
theorem xor_self8 (x : Int) : bits .xor .u8 x x = 0 := by
  show IntKind.u8.wrap ((BitVec.ofInt 8 x ^^^ BitVec.ofInt 8 x).toNat : Int) = 0
  rw [BitVec.xor_self]
  rfl
theorem xor_other {x b : Int} (h0 : 1 ≤ b) (h1 : b < 256) : bits .xor .u8 x b ≠ x := fun h => by
  have h2 := xor_twice x b (by omega) h1
  rw [h, xor_self8] at h2
  omega
theorem bent_no (i : Nat) (v : Int) (hB : BS.length = bn) (hi : i < 16) (hlen : (seaL KS NS AS BS).length = bn + 16) (hv : (seaL KS NS AS BS)[bn + i]? ≠ some v) : ¬ OpenOk kn nn an (bn + 16) KS NS AS ((seaL KS NS AS BS).set (bn + i) v) := fun ⟨_, h⟩ => by
  rw [Nat.add_sub_cancel] at h
  have ht : ((seaL KS NS AS BS).set (bn + i) v).take bn = strT KS 1 NS BS := by
    rw [← sea_take (NS := NS) (AS := AS) hB]
    apply List.ext_getElem?
    intro j
    rw [List.getElem?_take, List.getElem?_take]
    split
    · rw [List.getElem?_set_ne (by omega)]
    · rfl
  rw [ht, ← sea_drop hB] at h
  have h1 := congrArg (fun l : List Int => l[i]?) h
  simp only [List.getElem?_drop] at h1
  rw [List.getElem?_set_self (by omega)] at h1
  exact hv h1.symm
theorem open_no {KS NS AS BS : List Int} (h : ¬ OpenOk kn nn an bn KS NS AS BS) : openN kn nn an bn KS NS AS BS = 0 ∧ openB kn nn an bn KS NS AS BS = false ∧ openX kn nn an bn KS NS AS BS = [] := ⟨by simp only [openN, if_neg h], decide_eq_false h, by simp only [openX, if_neg h]⟩
theorem short_no {XS : List Int} : ¬ OpenOk kn nn an 15 KS NS AS XS := fun ⟨⟨_, _, _, h, _⟩, _⟩ => by omega
theorem ttN_16 (n m : Nat) : (ttN n m) % 16 = 0 := by
  unfold ttN fillN
  omega
end
theorem BytesT.after {w : World} {b o n c : Nat} {xs : List Int} (h : BytesT w (some ⟨b, o, none⟩) n c xs) (m : Nat) (hm : m ≤ n) : BytesT w (some ⟨b, o + m, none⟩) (n - m) (c - m) (xs.drop m) := ⟨by rw [List.length_drop, h.len], by have := h.cap; omega, fun x hx => h.low x (List.mem_of_mem_drop hx), fun h0 => ⟨b, o + m, rfl, fun j u hj => by
  obtain ⟨b1, o1, e1, hc⟩ := h.lies (by omega)
  obtain ⟨rfl, rfl⟩ : b = b1 ∧ o = o1 := by simpa using e1
  rw [List.getElem?_drop] at hj
  have := hc (m + j) u hj
  rw [Nat.add_assoc]
  exact this⟩⟩
theorem ev_cut (b j m cc l : Nat) (h : l ≤ m) (w : World) : (Instr.sliceAt 22 (.slice (some ⟨b, j, none⟩) m cc) (some (.int .i64 (l : Int))) none none).events Tryd.prog w #[] = #[] := by
  have h1 : 0 ≤ (l : Int) ∧ (l : Int) ≤ (m : Int) := by omega
  have ht := Tryd.underlying22
  obtain ⟨i0, hi, hz0, hz1, hz2⟩ := info_parts infoByte
  have hp1 : ∀ w, Sem.run Tryd.prog (Sem.program Sem.pure) w = .ok Tryd.prog w := fun _ => rfl
  have hp2 : ∀ w es, Sem.events Tryd.prog (Sem.program Sem.pure) w es = es := fun _ _ => rfl
  simp [go_sem, Instr.sliceAt, Instr.slice, Instr.sliceBounds, Instr.sliceBound, asIntOf, h1, ht, underlying, program, sizeOf, typeInfo, h, hp1, hp2, hi]
def atV (xs : List Int) (n i : Nat) : Int := if i < n then xs.getD i 0 else ((i * 7 + n : Nat) : Int) % 256
theorem atV_byte {xs : List Int} (n i : Nat) (hb : ∀ x ∈ xs, 0 ≤ x ∧ x < 256) : 0 ≤ atV xs n i ∧ atV xs n i < 256 := by
  unfold atV
  split
  · rw [List.getD_eq_getElem?_getD]
    cases hk : xs[i]? with
    | none => simp
    | some x => exact hb x (List.mem_of_getElem? hk)
  · omega
theorem at_is (p : Option Addr) (n c : Nat) (xs : List Int) (i : Nat) (w : World) (hn : n ≤ 1048576) (hi : i ≤ 100) (h : BytesIn w p n xs) (hb : ∀ x ∈ xs, 0 ≤ x ∧ x < 256) :
    Calls Tryd.prog 17 #[.slice p n c, .int .i64 (i : Int)] w fun e w' => e = .returned (.int .i64 (atV xs n i)) ∧ Below w.heap.size w w' := by
  by_cases hlt : i < n
  · rw [show atV xs n i = xs.getD i 0 from if_pos hlt]
    have hlt' : (i : Int) < (n : Int) := by omega
    obtain ⟨b, o, rfl, hc⟩ := h (by omega)
    have cx := hc i hlt
    have hv : 0 ≤ xs.getD i 0 ∧ xs.getD i 0 < 256 := by
      have := atV_byte n i hb
      rwa [show atV xs n i = xs.getD i 0 from if_pos hlt] at this
    generalize xs.getD i 0 = v at cx hv
    clear h hc hb
    go_enter Tryd.func17, Tryd.ntmps17
    go_wp2_with (fail)
    go_ret
    exact ⟨rfl, Below.refl _ _⟩
  · rw [show atV xs n i = ((i * 7 + n : Nat) : Int) % 256 from if_neg hlt]
    have hlt' : ¬ (i : Int) < (n : Int) := by omega
    clear h hb
    obtain ⟨u, hu⟩ : ∃ u : Nat, u = i * 7 := ⟨_, rfl⟩
    rw [← hu]
    obtain ⟨s, hs⟩ : ∃ s : Nat, s = u + n := ⟨_, rfl⟩
    rw [← hs]
    have eu : (i : Int) * 7 = (u : Int) := by omega
    have es : (u : Int) + (n : Int) = (s : Int) := by omega
    have ls : (s : Int) < 2000000 := by omega
    have lu : (u : Int) < 1000 := by omega
    have et : Int.tmod (s : Int) 256 = (s : Int) % 256 := Int.tmod_eq_emod_of_nonneg (by omega)
    obtain ⟨v, hv⟩ : ∃ v, v = (s : Int) % 256 := ⟨_, rfl⟩
    have hv2 : 0 ≤ v ∧ v < 256 := by omega
    rw [← hv]
    rw [← hv] at et
    clear hu hs hv
    go_enter Tryd.func17, Tryd.ntmps17
    go_wp2_with (fail)
    go_ret
    exact ⟨rfl, Below.refl _ _⟩
end Go.Proofs.YthjapmdikbmmkaaDoor
namespace Go.Proofs.YthjapmdikbmmkaaDoor
open Go.RowKit
set_option maxRecDepth 100000
theorem big_small (p : Option Addr) (n c : Nat) (w : World) (hn : n ≤ 1048576) : Calls Tryd.prog 6 #[.slice p n c] w fun e w' => e = .returned (.bool false) ∧ Below w.heap.size w w' := by
  have hd : decide ((1048576 : Int) < (n : Int)) = false := by simp; omega
  go_enter Tryd.func6, Tryd.ntmps6
  go_wp2
  go_ret
  refine ⟨?_, Below.refl _ _⟩
  first | rfl | (congr 2)
theorem big_great (p : Option Addr) (n c : Nat) (w : World) (hn : ¬ n ≤ 1048576) : Calls Tryd.prog 6 #[.slice p n c] w fun e w' => e = .returned (.bool true) ∧ Below w.heap.size w w' := by
  have hd : (1048576 : Int) < (n : Int) := by omega
  go_enter Tryd.func6, Tryd.ntmps6
  go_wp2
  go_ret
  exact ⟨by simp, Below.refl _ _⟩
end Go.Proofs.YthjapmdikbmmkaaDoor
