/-
  A part of the proof.
-/
import Derived.Test.YtnpffnhiefgglaaGreatDoorParw42
import Derived.Test.YtnpffnhiefgglaaGreatDoorParw10
import Derived.Test.YtnpffnhiefgglaaGreatDoorParw14
import Derived.Test.YtnpffnhiefgglaaGreatDoorParw23
import Derived.Test.YtnpffnhiefgglaaGreatDoorParw11
import Derived.Test.YtnpffnhiefgglaaGreatDoorParw41
import Derived.Lib.Bytes
import Derived.Test.YtnpffnhiefgglaaGreatDoorParw15
import Derived.Lib.AppendZerosOnto
namespace Go.Proofs.YtnpffnhiefgglaaGreatDoor
open Go.RowKit
set_option maxRecDepth 100000
set_option maxHeartbeats 4000000 in
theorem l11Head_any (e : Int) (p : Option Addr) (n c : Nat) (xs : List Int) (w : World) (he : 0 ≤ e ∧ e ≤ 65535) (hn : n ≤ 1048576) (hx : xs.length = n) (h : BytesIn w p n xs) :
    Calls Tryz.prog 45 #[.int .i64 e, .slice p n c] w fun z w' => ∃ p' c', z = .returned (.slice p' (3 + n) c') ∧ Own 5 w' w.heap.size w'.heap.size (.slice p' (3 + n) c') (3 + n) (headL e xs) ∧ Below w.heap.size w w' := by
  obtain ⟨i0, hi, hz0, hz1, hz2⟩ := info_parts infoByte
  have CG := fun X => specGreat_any e 2 X (by omega)
  have hFl : ((fitL e 2).reverse).length = 2 := by rw [List.length_reverse, fitL_length, fitN_two he.1]
  rw [fitN_two he.1] at CG
  obtain ⟨TL, hTL⟩ : ∃ TL, TL = headL e xs := ⟨_, rfl⟩
  obtain ⟨TN, hTN⟩ : ∃ TN, TN = 3 + n := ⟨_, rfl⟩
  rw [← hTL, ← hTN]
  have HT : Hid (TL = [1] ++ (fitL e 2).reverse ++ xs) := hTL
  replace hTN : Hid (3 + n = TN) := hTN.symm
  clear hTL
  generalize (fitL e 2).reverse = FL at CG hFl HT
  have o1 := one_ownW w
  have bo : Below w.heap.size w (w.alloc (.cells #[.int .u8 1] 5)) := (Below.refl _ _).alloc (Nat.le_refl _) _
  go_enter Tryz.func45, Tryz.ntmps45
  go_wp2_with (fail)
  refine (CG _).mono ?_
  rintro z w2 ⟨p2, c2, rfl, r2, b2⟩
  have o2 := owns_below o1 b2
  have k2 : Below w.heap.size w w2 := below_on bo b2
  have hin2 := r2.bytes
  have hsz2 := k2.size
  clear o1 bo CG r2 b2
  obtain ⟨L3, hL3⟩ : ∃ L3, [1] ++ FL = L3 := ⟨_, rfl⟩
  replace hL3 : Hid ([1] ++ FL = L3) := hL3
  go_wp2_with (first
    | (at_builtin; refine list_spreadA hi hz0 hz1 hz2 (.tmp 5) (.tmp 7) 22 Tryz.underlying22 o2 hin2 hFl (by omega) (by omega) hsz2 (by rfl) (by rfl) (by rfl) (by rfl) ?_; intro p3 c3 w3 o3 b3; rw [hL3.out, show (1 + 2 : Nat) = 3 from rfl] at o3; rw [show (1 + 2 : Nat) = 3 from rfl]; have k3 := k2.trans b3; have hsz3 := k3.size; have hin3 := in_below h k3; clear o2 hin2 b3)
    | (at_builtin; refine list_spreadA hi hz0 hz1 hz2 (.tmp 8) (.tmp 9) 22 Tryz.underlying22 o3 hin3 hx (by omega) (by omega) hsz3 (by rfl) (by rfl) (by rfl) (by rfl) ?_; intro p4 c4 w4 o4 b4; rw [← hL3.out, ← HT.out, hTN.out] at o4; rw [hTN.out]; have k4 := k3.trans b4; clear o3 hin3 b4))
  go_ret
  exact ⟨_, _, rfl, .of o4, k4⟩
set_option maxHeartbeats 8000000 in
theorem specWrite_yes (p0 p1 p3 : Option Addr) (n0 q0 n1 q1 n3 q3 : Nat) (ss ts xs : List Int) (e : Int) (w : World) (hok : wroteOk ss ts n0 n1 n3 e) (hx0 : ss.length = n0) (hx1 : ts.length = n1) (hx3 : xs.length = n3) (h0 : BytesIn w p0 n0 ss) (h1 : BytesIn w p1 n1 ts) (h3 : BytesIn w p3 n3 xs) (hb0 : ∀ x ∈ ss, 0 ≤ x ∧ x < 256) (hb1 : ∀ x ∈ ts, 0 ≤ x ∧ x < 256) :
    Calls Tryz.prog 9 #[.slice p0 n0 q0, .slice p1 n1 q1, .int .i64 e, .slice p3 n3 q3] w fun z w' => ∃ v, z = .returned (.tuple #[v, .bool true]) ∧ LetIs w.heap.size w' v e 32 (noteN n3 + 16) (frL ss n0) (boxL ss ts xs n0 n1 e) ∧ Below w.heap.size w w' := by
  obtain ⟨hag, hk, he0, he1⟩ := hok
  have hn0 : n0 = 32 := hag.1.1
  have hn1 : n1 = 32 := hag.1.2
  have hNN := noteN_le n3
  have hNp : 0 < noteN n3 := by
    have := (noteM_le n3).1
    rw [noteN, if_pos hk]
    omega
  have hNl : (noteL xs).length = noteN n3 := by rw [noteL_length, hx3]
  have hFl : (frL ss n0).length = 32 := frL_length hn0
  have hFb : ∀ x ∈ frL ss n0, 0 ≤ x ∧ x < 256 := frL_byte
  have hSb := agL_byte ss ts n0 n1
  have hSl : (agL ss ts n0 n1).length = 32 := by rw [agL_length, agN, if_pos hag]
  have CP := fun X (hX : Below w.heap.size w X) => specPublic_any p0 n0 q0 ss X hx0 (in_below h0 hX) hb0
  rw [show oneN n0 = 32 by rw [hn0]; rfl, show oneL (ptZ ss baseL) n0 = frL ss n0 from rfl] at CP
  have CA := fun X (hX : Below w.heap.size w X) => specAgreed_any p0 p1 n0 n1 q0 q1 ss ts X hx0 (in_below h0 hX) (in_below h1 hX) hb0 hb1
  rw [show agN ss ts n0 n1 = 32 from if_pos hag, decide_eq_true hag] at CA
  have CN := fun X (hX : Below w.heap.size w X) => specPadded_any p3 n3 q3 xs X (by omega) hx3 (in_below h3 hX)
  have CI := fun X => in_yes e 0 65535 X ⟨he0, he1⟩
  have CK := fun (pa : Option Addr) (ca : Nat) (pf : Option Addr) (cf : Nat) X (hX : Below w.heap.size w X) (ia : BytesIn X pa 32 (agL ss ts n0 n1)) (jf : BytesIn X pf 32 (frL ss n0)) => specKeys_any pa pf p1 32 32 n1 ca cf q1 (agL ss ts n0 n1) (frL ss n0) ts X (by omega) (by omega) hSl hFl hx1 ia jf (in_below h1 hX) hSb hFb hb1
  have hKl := kyL_length (agL ss ts n0 n1) (frL ss n0) ts
  have hCl := ncL_length (agL ss ts n0 n1) (frL ss n0) ts
  have hKb : ∀ x ∈ kyL (agL ss ts n0 n1) (frL ss n0) ts, 0 ≤ x ∧ x < 256 := fun x hx => bothL_byte _ _ _ x (List.mem_of_mem_take hx)
  have hCb : ∀ x ∈ ncL (agL ss ts n0 n1) (frL ss n0) ts, 0 ≤ x ∧ x < 256 := fun x hx => bothL_byte _ _ _ x (List.mem_of_mem_drop hx)
  have hHl : (headL e (frL ss n0)).length = 35 := by rw [headL_length, hFl, headN, fitN_two he0]
  have hHb : ∀ x ∈ headL e (frL ss n0), 0 ≤ x ∧ x < 256 := headL_byte hFb
  have CH := fun (pf : Option Addr) (cf : Nat) X (jf : BytesIn X pf 32 (frL ss n0)) => l11Head_any e pf 32 cf (frL ss n0) X ⟨he0, he1⟩ (by omega) hFl jf
  rw [show 3 + 32 = 35 from rfl] at CH
  rw [boxL, wkyL, wncL]
  generalize kyL (agL ss ts n0 n1) (frL ss n0) ts = KY at CK hKl hKb ⊢
  generalize ncL (agL ss ts n0 n1) (frL ss n0) ts = NC at CK hCl hCb ⊢
  generalize headL e (frL ss n0) = HL at CH hHl hHb ⊢
  generalize agL ss ts n0 n1 = SH at CA CK hSb hSl
  generalize frL ss n0 = FR at CP CK CH hFl hFb ⊢
  generalize noteL xs = NL at CN hNl ⊢
  generalize noteN n3 = NN at CN hNl hNN hNp ⊢
  have CS := fun (pk pn ph pt : Option Addr) (ck cn ch ct : Nat) X (hct : NN ≤ ct) (ik : BytesIn X pk 32 KY) (im : BytesIn X pn 12 NC) (ia : BytesIn X ph 35 HL) (ib : BytesIn X pt NN NL) => specSeal_yes pk pn ph pt ck cn 35 ch NN ct KY NC HL NL X hKl hCl hHl hNl (by omega) (by omega) hct ik im ia ib hKb hCb hHb
  obtain ⟨BN, hBN⟩ : ∃ BN, BN = NN + 16 := ⟨_, rfl⟩
  rw [← hBN] at CS ⊢
  have g1 : ¬ (NN : Int) = 0 := by omega
  clear hag hk hn0 hn1 hx0 hx1 hx3 h0 h1 h3 hb0 hb1 hNN hNp hNl hFl hFb hSb hSl hKl hCl hKb hCb hHl hHb hBN
  obtain ⟨W, hW⟩ : ∃ W, W = w.alloc (.cells #[.int .i64 0, .slice none 0 0, .slice none 0 0] 27) := ⟨_, rfl⟩
  have kA : Below w.heap.size w W := by rw [hW]; exact (Below.refl _ _).alloc (Nat.le_refl _) _
  have zW : W.heap.size = w.heap.size + 1 := by rw [hW]; simp
  have CR : Cells W w.heap.size #[.int .i64 0, .slice none 0 0, .slice none 0 0] := by rw [hW]; exact Cells.made _ _ _
  replace hW : Hid (w.alloc (.cells #[.int .i64 0, .slice none 0 0, .slice none 0 0] 27) = W) := hW.symm
  go_enter Tryz.func9, Tryz.ntmps9
  go_wp2_with (rw [hW.out])
  refine (CP _ kA).mono ?_
  rintro z w1 ⟨pf, cf, rfl, r1, b1⟩
  have k1 := below_on kA b1
  clear CP
  go_wp2_with (fail)
  refine (CA _ k1).mono ?_
  rintro z w2 ⟨pa, ca, rfl, r2, b2⟩
  have k2 := below_on k1 b2
  replace r1 := r1.on b2
  clear CA
  go_wp2_with (fail)
  refine (CN _ k2).mono ?_
  rintro z w3 ⟨pt, ct, rfl, r3, b3⟩
  have k3 := below_on k2 b3
  replace r1 := r1.on b3
  replace r2 := r2.on b3
  clear CN
  go_wp2_with (fail)
  refine (CI _).mono ?_
  rintro z w4 ⟨rfl, rfl⟩
  clear CI
  go_wp2_with (fail)
  refine (CK pa ca pf cf _ k3 r2.bytes r1.bytes).mono ?_
  rintro z w5 ⟨pk, ck, pn, cn, rfl, pr, b5⟩
  obtain ⟨la, ha, lb, hb, rk, rn, ba, bb, bd⟩ := pr
  have k5 := below_on k3 b5
  replace r1 := r1.on b5
  replace r3 := r3.on b5
  clear CK
  go_wp2_with (fail)
  refine (CH pf cf _ r1.bytes).mono ?_
  rintro z w6 ⟨ph, ch, rfl, r6, b6⟩
  have k6 := below_on k5 b6
  replace r1 := r1.on b6
  replace r3 := r3.on b6
  replace rk := rk.on b6
  replace rn := rn.on b6
  clear CH
  go_wp2_with (fail)
  refine (CS pk pn ph pt ck cn ch ct _ r3.cap rk.bytes rn.bytes r6.bytes r3.bytes).mono ?_
  rintro z w7 ⟨pb, cb, rfl, r7, b7⟩
  have k7 := below_on k6 b7
  replace r1 := r1.on b7
  clear CS
  have C0 : Cells w7 w.heap.size #[.int .i64 0, .slice none 0 0, .slice none 0 0] := (((((CR.on b1).on b2).on b3).on b5).on b6).on b7
  have sz1 := b1.size
  have sz2 := b2.size
  have sz3 := b3.size
  have sz5 := b5.size
  have sz6 := b6.size
  obtain ⟨B0, hB0⟩ : ∃ B0, B0 = w.heap.size := ⟨_, rfl⟩
  rw [← hB0] at C0
  rw [show (⟨w.heap.size, 0, none⟩ : Addr) = ⟨B0, 0, none⟩ by rw [hB0]]
  have zB0 : w.heap.size ≤ B0 := by omega
  have zB1 : B0 < W.heap.size := by omega
  clear hB0
  replace r7 := r7.low (lo' := w1.heap.size) (by omega)
  have z7 := b7.size
  have m0 : w7.cell? ⟨B0, 0, none⟩ = some (.int .i64 0) := (C0.2 0).1
  have f0 := (C0.2 0).2
  have D1 := C0.set 0 (by simp) (.int .i64 e)
  have m1 : (w7.setCell ⟨B0, 0, none⟩ (.int .i64 e)).cell? ⟨B0, 1, none⟩ = some (.slice none 0 0) := (D1.2 1).1
  have f1 := (D1.2 1).2
  have D2 := D1.set 1 (by simp) (.slice pf 32 cf)
  have m2 : ((w7.setCell ⟨B0, 0, none⟩ (.int .i64 e)).setCell ⟨B0, 1, none⟩ (.slice pf 32 cf)).cell? ⟨B0, 2, none⟩ = some (.slice none 0 0) := (D2.2 2).1
  have f2 := (D2.2 2).2
  have D3 := D2.set 2 (by simp) (.slice pb BN cb)
  obtain ⟨X3, hX3⟩ : ∃ X3, X3 = ((w7.setCell ⟨B0, 0, none⟩ (.int .i64 e)).setCell ⟨B0, 1, none⟩ (.slice pf 32 cf)).setCell ⟨B0, 2, none⟩ (.slice pb BN cb) := ⟨_, rfl⟩
  have bX : Below w.heap.size w7 X3 := by rw [hX3]; exact (((Below.refl _ _).setCell (show w.heap.size ≤ B0 by omega) _).setCell (show w.heap.size ≤ B0 by omega) _).setCell (show w.heap.size ≤ B0 by omega) _
  have s1 := ((r1.set_below (a := ⟨B0, 0, none⟩) (show B0 < W.heap.size by omega) (.int .i64 e)).set_below (a := ⟨B0, 1, none⟩) (show B0 < W.heap.size by omega) (.slice pf 32 cf)).set_below (a := ⟨B0, 2, none⟩) (show B0 < W.heap.size by omega) (.slice pb BN cb)
  rw [← hX3] at s1
  have s7 := ((r7.set_below (a := ⟨B0, 0, none⟩) (show B0 < w1.heap.size by omega) (.int .i64 e)).set_below (a := ⟨B0, 1, none⟩) (show B0 < w1.heap.size by omega) (.slice pf 32 cf)).set_below (a := ⟨B0, 2, none⟩) (show B0 < w1.heap.size by omega) (.slice pb BN cb)
  rw [← hX3] at s7
  have zX : X3.heap.size = w7.heap.size := by rw [hX3]; simp [World.setCell]
  rw [← hX3] at D3
  have y0 : X3.cell? ⟨B0, 0, none⟩ = some (.int .i64 e) := (D3.2 0).1
  have y1 : X3.cell? ⟨B0, 1, none⟩ = some (.slice pf 32 cf) := (D3.2 1).1
  have y2 : X3.cell? ⟨B0, 2, none⟩ = some (.slice pb BN cb) := (D3.2 2).1
  replace hX3 : Hid (((w7.setCell ⟨B0, 0, none⟩ (.int .i64 e)).setCell ⟨B0, 1, none⟩ (.slice pf 32 cf)).setCell ⟨B0, 2, none⟩ (.slice pb BN cb) = X3) := hX3.symm
  clear D1 D2 D3 C0
  go_wp2_with (first | rw [hX3.out])
  refine bodyPost_ret (v := .tuple #[.agg #[.int .i64 e, .slice pf 32 cf, .slice pb BN cb], .bool true]) ?_ rfl ⟨_, rfl, ⟨_, _, _, _, w1.heap.size, rfl, s1.low (by omega), by rw [zX]; exact s7, by omega, by omega⟩, k7.trans bX⟩
  simp only [results, Tryz.f9]
  go_simp
set_option maxHeartbeats 8000000 in
theorem specWrite_no (p0 p1 p3 : Option Addr) (n0 q0 n1 q1 n3 q3 : Nat) (ss ts xs : List Int) (e : Int) (w : World) (hno : ¬ wroteOk ss ts n0 n1 n3 e) (hn3 : n3 ≤ 9223372036854775807) (hx0 : ss.length = n0) (hx3 : xs.length = n3) (h0 : BytesIn w p0 n0 ss) (h1 : BytesIn w p1 n1 ts) (h3 : BytesIn w p3 n3 xs) (hb0 : ∀ x ∈ ss, 0 ≤ x ∧ x < 256) (hb1 : ∀ x ∈ ts, 0 ≤ x ∧ x < 256) :
    Calls Tryz.prog 9 #[.slice p0 n0 q0, .slice p1 n1 q1, .int .i64 e, .slice p3 n3 q3] w fun z w' => ∃ v, z = .returned (.tuple #[v, .bool false]) ∧ LetIs w.heap.size w' v 0 0 0 [] [] ∧ Below w.heap.size w w' := by
  have CP := fun X (hX : Below w.heap.size w X) => specPublic_any p0 n0 q0 ss X hx0 (in_below h0 hX) hb0
  have CA := fun X (hX : Below w.heap.size w X) => specAgreed_any p0 p1 n0 n1 q0 q1 ss ts X hx0 (in_below h0 hX) (in_below h1 hX) hb0 hb1
  have CN := fun X (hX : Below w.heap.size w X) => specPadded_any p3 n3 q3 xs X hn3 hx3 (in_below h3 hX)
  have hk : Hid (noteN n3 = 0 ↔ ¬ n3 ≤ 200) := by
    show _ ↔ _
    have := (noteM_le n3).1
    unfold noteN
    split <;> omega
  generalize oneL (ptZ ss baseL) n0 = FR at CP
  generalize oneN n0 = FN at CP
  generalize agL ss ts n0 n1 = SH at CA
  generalize agN ss ts n0 n1 = SN at CA
  generalize noteL xs = NL at CN
  obtain ⟨NN, hNN⟩ : ∃ NN, NN = noteN n3 := ⟨_, rfl⟩
  rw [← hNN] at CN hk
  obtain ⟨W, hW⟩ : ∃ W, W = w.alloc (.cells #[.int .i64 0, .slice none 0 0, .slice none 0 0] 27) := ⟨_, rfl⟩
  have kA : Below w.heap.size w W := by rw [hW]; exact (Below.refl _ _).alloc (Nat.le_refl _) _
  have zW : W.heap.size = w.heap.size + 1 := by rw [hW]; simp
  have CR : Cells W w.heap.size #[.int .i64 0, .slice none 0 0, .slice none 0 0] := by rw [hW]; exact Cells.made _ _ _
  replace hW : Hid (w.alloc (.cells #[.int .i64 0, .slice none 0 0, .slice none 0 0] 27) = W) := hW.symm
  by_cases hA : agOk ss ts n0 n1
  · rw [decide_eq_true hA] at CA
    by_cases hK : NN = 0
    · have g1 : (NN : Int) = 0 := by omega
      clear hno hk hx0 hx3 h0 h1 h3 hb0 hb1 hNN
      go_enter Tryz.func9, Tryz.ntmps9
      go_wp2_with (rw [hW.out])
      refine (CP _ kA).mono ?_
      rintro z w1 ⟨pf, cf, rfl, r1, b1⟩
      have k1 := below_on kA b1
      go_wp2_with (fail)
      refine (CA _ k1).mono ?_
      rintro z w2 ⟨pa, ca, rfl, r2, b2⟩
      have k2 := below_on k1 b2
      go_wp2_with (fail)
      refine (CN _ k2).mono ?_
      rintro z w3 ⟨pt, ct, rfl, r3, b3⟩
      have k3 := below_on k2 b3
      have C0 : Cells w3 w.heap.size #[.int .i64 0, .slice none 0 0, .slice none 0 0] := ((CR.on b1).on b2).on b3
      have sz1 := b1.size
      have sz2 := b2.size
      have sz3 := b3.size
      clear CP CA CN CR r1 r2 r3
      obtain ⟨B0, hB0⟩ : ∃ B0, B0 = w.heap.size := ⟨_, rfl⟩
      rw [← hB0] at C0
      rw [show (⟨w.heap.size, 0, none⟩ : Addr) = ⟨B0, 0, none⟩ by rw [hB0]]
      have zB0 : w.heap.size ≤ B0 := by omega
      have zB1 : B0 < W.heap.size := by omega
      clear hB0
      have m0 : w3.cell? ⟨B0, 0, none⟩ = some (.int .i64 0) := (C0.2 0).1
      have f0 := (C0.2 0).2
      have D1 := C0.set 0 (by simp) (.int .i64 0)
      have m1 : (w3.setCell ⟨B0, 0, none⟩ (.int .i64 0)).cell? ⟨B0, 1, none⟩ = some (.slice none 0 0) := (D1.2 1).1
      have f1 := (D1.2 1).2
      have D2 := D1.set 1 (by simp) (.slice none 0 0)
      have m2 : ((w3.setCell ⟨B0, 0, none⟩ (.int .i64 0)).setCell ⟨B0, 1, none⟩ (.slice none 0 0)).cell? ⟨B0, 2, none⟩ = some (.slice none 0 0) := (D2.2 2).1
      have f2 := (D2.2 2).2
      have D3 := D2.set 2 (by simp) (.slice none 0 0)
      obtain ⟨X3, hX3⟩ : ∃ X3, X3 = ((w3.setCell ⟨B0, 0, none⟩ (.int .i64 0)).setCell ⟨B0, 1, none⟩ (.slice none 0 0)).setCell ⟨B0, 2, none⟩ (.slice none 0 0) := ⟨_, rfl⟩
      have bX : Below w.heap.size w3 X3 := by rw [hX3]; exact (((Below.refl _ _).setCell (show w.heap.size ≤ B0 by omega) _).setCell (show w.heap.size ≤ B0 by omega) _).setCell (show w.heap.size ≤ B0 by omega) _
      have zX : X3.heap.size = w3.heap.size := by rw [hX3]; simp [World.setCell]
      rw [← hX3] at D3
      have y0 : X3.cell? ⟨B0, 0, none⟩ = some (.int .i64 0) := (D3.2 0).1
      have y1 : X3.cell? ⟨B0, 1, none⟩ = some (.slice none 0 0) := (D3.2 1).1
      have y2 : X3.cell? ⟨B0, 2, none⟩ = some (.slice none 0 0) := (D3.2 2).1
      replace hX3 : Hid (((w3.setCell ⟨B0, 0, none⟩ (.int .i64 0)).setCell ⟨B0, 1, none⟩ (.slice none 0 0)).setCell ⟨B0, 2, none⟩ (.slice none 0 0) = X3) := hX3.symm
      clear D1 D2 D3 C0
      go_wp2_with (first | rw [hX3.out])
      refine bodyPost_ret (v := .tuple #[.agg #[.int .i64 0, .slice none 0 0, .slice none 0 0], .bool false]) ?_ rfl ⟨_, rfl, letIs_none _ _ (by omega), k3.trans bX⟩
      simp only [results, Tryz.f9]
      go_simp
    · have g1 : ¬ (NN : Int) = 0 := by omega
      have CI := fun X => in_no e 0 65535 X (fun h => hno ⟨hA, by have := hk.out; omega, h.1, h.2⟩)
      clear hno hk hx0 hx3 h0 h1 h3 hb0 hb1 hNN
      go_enter Tryz.func9, Tryz.ntmps9
      go_wp2_with (rw [hW.out])
      refine (CP _ kA).mono ?_
      rintro z w1 ⟨pf, cf, rfl, r1, b1⟩
      have k1 := below_on kA b1
      go_wp2_with (fail)
      refine (CA _ k1).mono ?_
      rintro z w2 ⟨pa, ca, rfl, r2, b2⟩
      have k2 := below_on k1 b2
      go_wp2_with (fail)
      refine (CN _ k2).mono ?_
      rintro z w3 ⟨pt, ct, rfl, r3, b3⟩
      have k3 := below_on k2 b3
      have C0 : Cells w3 w.heap.size #[.int .i64 0, .slice none 0 0, .slice none 0 0] := ((CR.on b1).on b2).on b3
      have sz1 := b1.size
      have sz2 := b2.size
      have sz3 := b3.size
      clear CP CA CN CR r1 r2 r3
      go_wp2_with (fail)
      refine (CI _).mono ?_
      rintro z w4 ⟨rfl, rfl⟩
      clear CI
      obtain ⟨B0, hB0⟩ : ∃ B0, B0 = w.heap.size := ⟨_, rfl⟩
      rw [← hB0] at C0
      rw [show (⟨w.heap.size, 0, none⟩ : Addr) = ⟨B0, 0, none⟩ by rw [hB0]]
      have zB0 : w.heap.size ≤ B0 := by omega
      have zB1 : B0 < W.heap.size := by omega
      clear hB0
      have m0 : w4.cell? ⟨B0, 0, none⟩ = some (.int .i64 0) := (C0.2 0).1
      have f0 := (C0.2 0).2
      have D1 := C0.set 0 (by simp) (.int .i64 0)
      have m1 : (w4.setCell ⟨B0, 0, none⟩ (.int .i64 0)).cell? ⟨B0, 1, none⟩ = some (.slice none 0 0) := (D1.2 1).1
      have f1 := (D1.2 1).2
      have D2 := D1.set 1 (by simp) (.slice none 0 0)
      have m2 : ((w4.setCell ⟨B0, 0, none⟩ (.int .i64 0)).setCell ⟨B0, 1, none⟩ (.slice none 0 0)).cell? ⟨B0, 2, none⟩ = some (.slice none 0 0) := (D2.2 2).1
      have f2 := (D2.2 2).2
      have D3 := D2.set 2 (by simp) (.slice none 0 0)
      obtain ⟨X3, hX3⟩ : ∃ X3, X3 = ((w4.setCell ⟨B0, 0, none⟩ (.int .i64 0)).setCell ⟨B0, 1, none⟩ (.slice none 0 0)).setCell ⟨B0, 2, none⟩ (.slice none 0 0) := ⟨_, rfl⟩
      have bX : Below w.heap.size w4 X3 := by rw [hX3]; exact (((Below.refl _ _).setCell (show w.heap.size ≤ B0 by omega) _).setCell (show w.heap.size ≤ B0 by omega) _).setCell (show w.heap.size ≤ B0 by omega) _
      have zX : X3.heap.size = w4.heap.size := by rw [hX3]; simp [World.setCell]
      rw [← hX3] at D3
      have y0 : X3.cell? ⟨B0, 0, none⟩ = some (.int .i64 0) := (D3.2 0).1
      have y1 : X3.cell? ⟨B0, 1, none⟩ = some (.slice none 0 0) := (D3.2 1).1
      have y2 : X3.cell? ⟨B0, 2, none⟩ = some (.slice none 0 0) := (D3.2 2).1
      replace hX3 : Hid (((w4.setCell ⟨B0, 0, none⟩ (.int .i64 0)).setCell ⟨B0, 1, none⟩ (.slice none 0 0)).setCell ⟨B0, 2, none⟩ (.slice none 0 0) = X3) := hX3.symm
      clear D1 D2 D3 C0
      go_wp2_with (first | rw [hX3.out])
      refine bodyPost_ret (v := .tuple #[.agg #[.int .i64 0, .slice none 0 0, .slice none 0 0], .bool false]) ?_ rfl ⟨_, rfl, letIs_none _ _ (by omega), k3.trans bX⟩
      simp only [results, Tryz.f9]
      go_simp
  · rw [decide_eq_false hA] at CA
    clear hno hk hx0 hx3 h0 h1 h3 hb0 hb1 hNN
    go_enter Tryz.func9, Tryz.ntmps9
    go_wp2_with (rw [hW.out])
    refine (CP _ kA).mono ?_
    rintro z w1 ⟨pf, cf, rfl, r1, b1⟩
    have k1 := below_on kA b1
    go_wp2_with (fail)
    refine (CA _ k1).mono ?_
    rintro z w2 ⟨pa, ca, rfl, r2, b2⟩
    have k2 := below_on k1 b2
    go_wp2_with (fail)
    refine (CN _ k2).mono ?_
    rintro z w3 ⟨pt, ct, rfl, r3, b3⟩
    have k3 := below_on k2 b3
    have C0 : Cells w3 w.heap.size #[.int .i64 0, .slice none 0 0, .slice none 0 0] := ((CR.on b1).on b2).on b3
    have sz1 := b1.size
    have sz2 := b2.size
    have sz3 := b3.size
    clear CP CA CN CR r1 r2 r3
    obtain ⟨B0, hB0⟩ : ∃ B0, B0 = w.heap.size := ⟨_, rfl⟩
    rw [← hB0] at C0
    rw [show (⟨w.heap.size, 0, none⟩ : Addr) = ⟨B0, 0, none⟩ by rw [hB0]]
    have zB0 : w.heap.size ≤ B0 := by omega
    have zB1 : B0 < W.heap.size := by omega
    clear hB0
    have m0 : w3.cell? ⟨B0, 0, none⟩ = some (.int .i64 0) := (C0.2 0).1
    have f0 := (C0.2 0).2
    have D1 := C0.set 0 (by simp) (.int .i64 0)
    have m1 : (w3.setCell ⟨B0, 0, none⟩ (.int .i64 0)).cell? ⟨B0, 1, none⟩ = some (.slice none 0 0) := (D1.2 1).1
    have f1 := (D1.2 1).2
    have D2 := D1.set 1 (by simp) (.slice none 0 0)
    have m2 : ((w3.setCell ⟨B0, 0, none⟩ (.int .i64 0)).setCell ⟨B0, 1, none⟩ (.slice none 0 0)).cell? ⟨B0, 2, none⟩ = some (.slice none 0 0) := (D2.2 2).1
    have f2 := (D2.2 2).2
    have D3 := D2.set 2 (by simp) (.slice none 0 0)
    obtain ⟨X3, hX3⟩ : ∃ X3, X3 = ((w3.setCell ⟨B0, 0, none⟩ (.int .i64 0)).setCell ⟨B0, 1, none⟩ (.slice none 0 0)).setCell ⟨B0, 2, none⟩ (.slice none 0 0) := ⟨_, rfl⟩
    have bX : Below w.heap.size w3 X3 := by rw [hX3]; exact (((Below.refl _ _).setCell (show w.heap.size ≤ B0 by omega) _).setCell (show w.heap.size ≤ B0 by omega) _).setCell (show w.heap.size ≤ B0 by omega) _
    have zX : X3.heap.size = w3.heap.size := by rw [hX3]; simp [World.setCell]
    rw [← hX3] at D3
    have y0 : X3.cell? ⟨B0, 0, none⟩ = some (.int .i64 0) := (D3.2 0).1
    have y1 : X3.cell? ⟨B0, 1, none⟩ = some (.slice none 0 0) := (D3.2 1).1
    have y2 : X3.cell? ⟨B0, 2, none⟩ = some (.slice none 0 0) := (D3.2 2).1
    replace hX3 : Hid (((w3.setCell ⟨B0, 0, none⟩ (.int .i64 0)).setCell ⟨B0, 1, none⟩ (.slice none 0 0)).setCell ⟨B0, 2, none⟩ (.slice none 0 0) = X3) := hX3.symm
    clear D1 D2 D3 C0
    go_wp2_with (first | rw [hX3.out])
    refine bodyPost_ret (v := .tuple #[.agg #[.int .i64 0, .slice none 0 0, .slice none 0 0], .bool false]) ?_ rfl ⟨_, rfl, letIs_none _ _ (by omega), k3.trans bX⟩
    simp only [results, Tryz.f9]
    go_simp
theorem specWrite_any (p0 p1 p3 : Option Addr) (n0 q0 n1 q1 n3 q3 : Nat) (ss ts xs : List Int) (e : Int) (w : World) (hn3 : n3 ≤ 9223372036854775807) (hx0 : ss.length = n0) (hx1 : ts.length = n1) (hx3 : xs.length = n3) (h0 : BytesIn w p0 n0 ss) (h1 : BytesIn w p1 n1 ts) (h3 : BytesIn w p3 n3 xs) (hb0 : ∀ x ∈ ss, 0 ≤ x ∧ x < 256) (hb1 : ∀ x ∈ ts, 0 ≤ x ∧ x < 256) :
    Calls Tryz.prog 9 #[.slice p0 n0 q0, .slice p1 n1 q1, .int .i64 e, .slice p3 n3 q3] w fun z w' => ∃ v, z = .returned (.tuple #[v, .bool (decide (wroteOk ss ts n0 n1 n3 e))]) ∧ LetIs w.heap.size w' v (wrE ss ts n0 n1 n3 e) (wrF ss ts n0 n1 n3 e) (wrB ss ts n0 n1 n3 e) (wrFl ss ts xs n0 n1 n3 e) (wrBl ss ts xs n0 n1 n3 e) ∧ Below w.heap.size w w' := by
  by_cases hok : wroteOk ss ts n0 n1 n3 e
  · rw [decide_eq_true hok]
    exact (specWrite_yes p0 p1 p3 n0 q0 n1 q1 n3 q3 ss ts xs e w hok hx0 hx1 hx3 h0 h1 h3 hb0 hb1).mono fun z w' ⟨v, a, b, c⟩ => ⟨v, a, letIs_yes hok b, c⟩
  · rw [decide_eq_false hok]
    exact (specWrite_no p0 p1 p3 n0 q0 n1 q1 n3 q3 ss ts xs e w hok hn3 hx0 hx3 h0 h1 h3 hb0 hb1).mono fun z w' ⟨v, a, b, c⟩ => ⟨v, a, letIs_no hok b, c⟩
end Go.Proofs.YtnpffnhiefgglaaGreatDoor
namespace Go.Proofs.YtnpffnhiefgglaaGreatDoor
open Go Go.Conc Go.RowKit
set_option maxRecDepth 100000
section
variable {P : Program} {Al : Als} {Post : Value → World → Prop}
end
theorem Bes.does {P : Program} {Q : Goroutine → World → Prop} {fr : Frame} {cs : List Frame} (w : World) (hs : ∀ d, ∃ g2 w2 es, stepG P true (G fr cs) (w.at d) = .go g2 w2 es ∧ w.heap.size ≤ w2.heap.size ∧ (∀ e ∈ es, EvO w2.heap.size e) ∧ Bes P Q g2 w2) :
    Bes P Q (G fr cs) w := fun gs sl t q h0 hL hP => by
  have key : ∀ (m : Nat) (gs : Array Goroutine) (w1 : World) (sl : Option (Nat × Nat)) (t : Trace) (q : Nat → Nat), Go.ConcN.sumTo gs.size q = m → (∀ d, w1.at d = w.at d) → w1.heap.size = w.heap.size → gs[0]? = some (G fr cs) → LeavX P 0 t gs q → Past (fun _ => False) w1.heap.size t →
      Comes P (fun gs1 w1 _ t1 => ∃ g1 q1, gs1[0]? = some g1 ∧ Q g1 w1 ∧ LeavX P 0 t1 gs1 q1 ∧ Past (fun _ => False) w1.heap.size t1) gs w1 sl t := by
    intro m
    induction m using Nat.strongRecOn with
    | _ m ih =>
      intro gs w1 sl t q hm hat hsz1 h0 hL hP
      obtain ⟨i, x, d, sl', hi, hx, hpick⟩ := crowd_pick (P := P) (w := w1) (sl := sl) (hL.awake h0 rfl) ⟨0, _, h0, rfl⟩
      rcases Nat.eq_zero_or_pos i with rfl | hpos
      · obtain rfl : x = G fr cs := by rw [h0] at hi; exact (Option.some.inj hi).symm
        have hlt : 0 < gs.size := (Array.getElem?_eq_some_iff.1 h0).1
        obtain ⟨g2, w2, es, hgo, hsz, hev, hB⟩ := hs d
        rw [← hat d] at hgo
        refine .step (hpick.trans (runT_crowd_go hi hgo)) (hB _ sl' _ q (by simp [hlt]) (hL.own (.inl rfl) hlt fun op hop => ?_) ((hP.mono (by omega)).own fun e he => hev e he))
        obtain ⟨e, h1, rfl⟩ := Go.Conc.mem_ofEvents hop
        rfl
      · obtain ⟨g', es, q', hmu, hgo, hL', hlt⟩ := hL.slip hpos (by omega) hi hx x.frame.fn x.frame.place (w1.at d)
        refine .step (hpick.trans (runT_crowd_go hi hgo)) (ih _ (by rw [← hm]; exact hlt) _ (w1.at d) sl' _ q' (by simp) (fun d' => (hat d' : w1.at d' = w.at d')) hsz1 ?_ hL' (hP.mute (by omega) hmu))
        have hne : i ≠ 0 := by omega
        rw [Array.getElem?_setIfInBounds_ne hne, Array.getElem?_map, h0]
        simp [woken_run (show (G fr cs).status = .running from rfl)]
  exact key _ gs w sl t q rfl (fun _ => rfl) rfl h0 hL hP
section
variable {P : Program} {Q : Goroutine → World → Prop} {cs : List Frame} {w : World} {b : Frame} {a : Act} {k : List Item} {ops : Array Oper} {i : Nat} {rest : List Nat} {o : Oper}
theorem BesB.does {α : Next → Prop} (ho : ops[i]? = some o) (hw : Region.wanted o (yielded ops a.tmps) = true) (hk : b.kind ≠ .early) (hh : Hush P α (execOp a.eval o))
    (hr : ∀ w1, CellsTo P.globals.size w1 → Below w.heap.size w w1 → ∃ v w2, ((execOp a.eval o).run P w1 = .ok (.value v) w2 ∨ ((execOp a.eval o).run P w1 = .ok .skip w2 ∧ v = undef)) ∧ w1.heap.size ≤ w2.heap.size ∧ CellsTo P.globals.size w2 ∧ BesB P Q (G (b.at (a.put o.dst v) (.inRegion ops rest :: k)) cs) w2) :
    BesB P Q (G (b.at a (.inRegion ops (i :: rest) :: k)) cs) w := fun w1 hG hl => .does w1 fun d => by
  obtain ⟨v, w2, hrun, hsz, hG2, hB⟩ := hr (w1.at d) hG ⟨hl.os, hl.tape, hl.output, hl.size, hl.block⟩
  have hev : ∀ e ∈ listed P b.fn a o (w1.at d), EvO w2.heap.size e := fun e he => by
    have hlow := run_low P _ hh (w1.at d) #[]
    have he' : e ∈ (execOp a.eval o).events P (w1.at d) #[] := seen_sub _ _ he
    have e2 : rworld ((execOp a.eval o).runT P (w1.at d) #[]).1 = w2 := by
      rw [Sem.runT_fst P _ (w1.at d) #[]]
      rcases hrun with h | ⟨h, _⟩ <;> rw [h] <;> rfl
    rw [← e2]
    exact (hlow e he').elim (fun h => by simp at h) id
  rcases hrun with h | ⟨h, rfl⟩
  · exact ⟨_, w2, _, stepG_value ho hw hk h, hsz, hev, hB w2 hG2 (.refl _ _)⟩
  · exact ⟨_, w2, _, stepG_none ho hw hk h, hsz, hev, hB w2 hG2 (.refl _ _)⟩
theorem BesB.load {t : TypeId} {x : Operand} {v : Value} (ho : ops[i]? = some o) (hw : Region.wanted o (yielded ops a.tmps) = true) (hk : b.kind ≠ .early) (hop : o.op = .load t x)
    (hr : ∀ w1, Below w.heap.size w w1 → (execOp a.eval o).run P w1 = .ok (.value v) w1) (h : BesB P Q (G (b.at (a.put o.dst v) (.inRegion ops rest :: k)) cs) w) :
    BesB P Q (G (b.at a (.inRegion ops (i :: rest) :: k)) cs) w :=
  .does (α := OkNext ⟨fun _ => false, fun _ _ => false, fun _ => false, fun _ => false, fun _ => false⟩) ho hw hk (by unfold execOp; rw [hop]; exact hush_value (hush_loadAt _ _)) fun w1 hG hb => ⟨_, w1, .inl (hr w1 hb), Nat.le_refl _, hG, h.on hb⟩
theorem BesB.store {t : TypeId} {x y : Operand} {ad : Addr} {v : Value} (ho : ops[i]? = some o) (hw : Region.wanted o (yielded ops a.tmps) = true) (hk : b.kind ≠ .early) (hop : o.op = .store t x y) (hg : P.globals.size ≤ ad.block)
    (hr : ∀ w1, Below w.heap.size w w1 → (execOp a.eval o).run P w1 = .ok .skip (w1.setCell ad v)) (h : ∀ w1, Below w.heap.size w w1 → BesB P Q (G (b.at (a.put o.dst undef) (.inRegion ops rest :: k)) cs) (w1.setCell ad v)) :
    BesB P Q (G (b.at a (.inRegion ops (i :: rest) :: k)) cs) w :=
  .does (α := OkNext ⟨fun _ => false, fun _ _ => false, fun _ => false, fun _ => false, fun _ => false⟩) ho hw hk (by unfold execOp; rw [hop]; exact hush_unit (hush_storeAt _ _ _)) fun w1 hG hb => ⟨_, _, .inr ⟨hr w1 hb, rfl⟩, by simp [World.setCell], fun b hb' => by
    obtain ⟨o1, h1, h2⟩ := hG b hb'
    exact ⟨o1, (Below.heap_setCell w1 ad v b (by omega)).trans h1, h2⟩, h w1 hb⟩
theorem BesB.ret {fn : Func} {v : Value} {c : Frame} (hfn : P.funcs[b.fn]? = some fn) (hk : b.kind = .normal) (hd : a.defers = []) (hr : ∀ w1, Below w.heap.size w w1 → (results fn a.tmps).run P w1 = .ok v w1) (h : BesB P Q (G (c.finish v) cs) w) :
    BesB P Q (G (b.at a (.code .ret :: k)) (c :: cs)) w :=
  .ctlG (fun _ => stepG_ret') fun w1 hG hl => .does w1 fun d => by
    have hl' : Below w.heap.size w (w1.at d) := ⟨hl.os, hl.tape, hl.output, hl.size, hl.block⟩
    cases hrt : (results fn a.tmps).runT P (w1.at d) #[] with
    | mk r es =>
      have e1 : r = .ok v (w1.at d) := by rw [← hr _ hl', ← Sem.runT_fst P _ (w1.at d) #[], hrt]
      subst e1
      have hlow := run_low P _ (hush_results (P := P) fn a.tmps) (w1.at d) #[]
      rw [hrt] at hlow
      refine ⟨_, w1.at d, seen P b.fn es, ?_, Nat.le_refl _, fun e he => (hlow e (seen_sub _ _ he)).elim (fun h => by simp at h) id, h (w1.at d) hG hl'⟩
      simp only [stepG, G, Frame.at, unwind, hd, hfn, hrt, GStep.after, doReturn, hk, Array.append_empty]
end
theorem below_lower {n m : Nat} {w w1 : World} (h : Below n w w1) (hm : m ≤ n) : Below m w w1 := ⟨h.os, h.tape, h.output, h.size, fun b hb => h.block b (Nat.lt_of_lt_of_le hb hm)⟩
theorem Like.belowR {w w1 W : World} {θ : Nat → Question → Nat} (e : Like w w1) (t : w1.tape = W.tape) (h : Below (World.ret W θ).heap.size (World.ret W θ) w) : Below W.heap.size W w1 := e.below (θ := θ) t h
end Go.Proofs.YtnpffnhiefgglaaGreatDoor
namespace Go.Proofs.YtnpffnhiefgglaaGreatDoor
open Go Go.Conc
set_option maxRecDepth 100000
def bOp : Frame := { (default : Frame) with fn := 79, kind := .normal }
noncomputable def bodyOp : Code := Tryz.f79.body.getD .skip
noncomputable def bodyO1 : Code := Tryz.f119.body.getD .skip
section
variable {Sh : Nat → Prop} {Stop : (Nat → Prop) → Goroutine → World → Prop} {M : Nat → Prop} {w : World}
end
def waitOp (R O : Nat) : List Deferred := [dval 119 #[.pointer (some ⟨R, 0, none⟩), .pointer (some ⟨O, 0, none⟩)]]
section
variable {Sh : Nat → Prop} {Stop : (Nat → Prop) → Goroutine → World → Prop} {M : Nat → Prop} {w : World}
end
end Go.Proofs.YtnpffnhiefgglaaGreatDoor
namespace Go.Proofs.YtnpffnhiefgglaaGreatDoor
open Go Go.Conc Go.RowKit
set_option maxRecDepth 100000
section
variable {Q : Goroutine → World → Prop} {w : World}
structure But (R O : Nat) (w w2 : World) : Prop where
  heap : ∀ b, b < w.heap.size → b ≠ R → b ≠ O → w2.heap[b]? = w.heap[b]?
  size : w.heap.size ≤ w2.heap.size
  os : w2.os = w.os
  output : w2.output = w.output
  tape : w2.tape = w.tape
end
section
variable {Q : Goroutine → World → Prop} {w : World} {b : Frame} {a : Act} {cs : List Frame} {k : List Item} {ops : Array Oper} {i : Nat} {rest : List Nat} {o : Oper}
end
end Go.Proofs.YtnpffnhiefgglaaGreatDoor
namespace Go.Proofs.YtnpffnhiefgglaaGreatDoor
open Go.RowKit
set_option maxRecDepth 100000
end Go.Proofs.YtnpffnhiefgglaaGreatDoor
namespace Go.Proofs.YtnpffnhiefgglaaGreatDoor
open Go Go.Conc Go.RowKit
set_option maxRecDepth 100000
def OpenOk (kn nn an bn : Nat) (KS NS AS BS : List Int) : Prop := (kn = 32 ∧ nn = 12 ∧ an ≤ 1500 ∧ 16 ≤ bn ∧ bn ≤ 1516) ∧ BS.drop (bn - 16) = stL KS NS AS (BS.take (bn - 16))
instance (kn nn an bn : Nat) (KS NS AS BS : List Int) : Decidable (OpenOk kn nn an bn KS NS AS BS) := by unfold OpenOk; infer_instance
def openN (kn nn an bn : Nat) (KS NS AS BS : List Int) : Nat := if OpenOk kn nn an bn KS NS AS BS then bn - 16 else 0
def openB (kn nn an bn : Nat) (KS NS AS BS : List Int) : Bool := decide (OpenOk kn nn an bn KS NS AS BS)
def openX (kn nn an bn : Nat) (KS NS AS BS : List Int) : List Int := if OpenOk kn nn an bn KS NS AS BS then strT KS 1 NS (BS.take (bn - 16)) else []
theorem BytesT.keep {w w1 : World} {p : Option Addr} {n c : Nat} {xs : List Int} (h : BytesT w p n c xs) (b : Below w.heap.size w w1) : BytesT w1 p n c xs := h.keeps b.block
theorem BytesT.ret {w : World} {p : Option Addr} {n c : Nat} {xs : List Int} (h : BytesT w p n c xs) (θ : Nat → Question → Nat) : BytesT (World.ret w θ) p n c xs := ⟨h.len, h.cap, h.low, h.lies⟩
end Go.Proofs.YtnpffnhiefgglaaGreatDoor
namespace Go.Proofs.YtnpffnhiefgglaaGreatDoor
open Go.RowKit
set_option maxRecDepth 100000
def unN (bs : List Int) : Nat := (256 * bs.getD 0 0 + bs.getD 1 0).toNat
def unS (bs : List Int) : List Int := (bs.drop 2).take (unN bs)
def unOk (bs : List Int) : Prop := 2 ≤ bs.length ∧ unN bs ≤ bs.length - 2 ∧ unN bs ≤ 200 ∧ noteL (unS bs) = bs
instance (bs : List Int) : Decidable (unOk bs) := inferInstanceAs (Decidable (_ ∧ _))
def unM (bs : List Int) : Nat := if unOk bs then unN bs else 0
def unL (bs : List Int) : List Int := if unOk bs then unS bs else []
theorem noughts (k : Nat) : Builtin.zeroCells (Value.cells (.int .u8 0)) k = ((List.replicate k (0 : Int)).map (Value.int .u8)).toArray := by
  apply Array.ext
  · simp [size_zeroCells, Value.cells]
  · intro i h1 h2
    simp [Builtin.zeroCells, Value.cells, Nat.mod_one]
theorem run_append_noughts {P : Program} {e : TypeId} {i : TypeInfo} {base n cq k : Nat} {w : World} {q : Option Addr} {xs : List Int} (t tn ty : TypeId) (hi : P.info? e = some i) (hz : i.zero = some (.int .u8 0)) (hsize : i.size = 1) (hby : i.bytes = 1)
    (ht : P.underlying t = some (.slice e)) (htn : P.underlying tn = some (.int .i64)) (hown : w.ownsRow base e 1 (.slice q n cq) n (xs.map (Value.int .u8))) (hk : n + k ≤ 1099511627776) (hbase : base ≤ w.heap.size) :
    ∃ p' c' w', (Builtin.append_ #[t, tn] ty #[.slice q n cq, .int .i64 k]).run P w = .ok (.slice p' (n + k) c') w' ∧ w'.ownsRow base e 1 (.slice p' (n + k) c') (n + k) ((xs ++ List.replicate k 0).map (Value.int .u8)) ∧ Below base w w' := by
  have hcap := owns_cap hown
  have hlx : xs.length = n := owns_len hown
  have hw : IntKind.i64.wrap (k : Int) = k := by rw [IntKind.wrap_i64]; omega
  have hneg : ¬ ((k : Int) < 0) := by omega
  have h48 : ¬ (281474976710656 < (k : Int)) := by omega
  rcases Nat.eq_zero_or_pos k with h0 | h0
  · subst h0
    refine ⟨q, cq, w, ?_, by simpa using hown, Below.refl _ _⟩
    cases q <;> simp [Builtin.append_, run_underlying ht, run_underlying htn, sizeOf, typeInfo, hi, hby, asInt, asIntOf, IntKind.wrap_i64, hcap, storeCells]
  · by_cases hroom : n + k ≤ cq
    · rcases hown.2 with ⟨hv, hn0⟩ | ⟨g, cap, cur, hv, hbg, hg, hnc, hcm, hcs, htake⟩
      · simp only [Value.slice.injEq] at hv
        omega
      · simp only [Value.slice.injEq] at hv
        obtain ⟨rfl, _, rfl⟩ := hv
        have hst := run_storeCells_at P g n e ((List.replicate k (0 : Int)).map (Value.int .u8)) 0 cur w hg (by simp; omega) (ints_oneCell _ _)
        simp only [Nat.add_zero] at hst
        refine ⟨some ⟨g, 0, none⟩, cq, w.setRow g (cur.toList.take n ++ (List.replicate k (0 : Int)).map (Value.int .u8) ++ cur.toList.drop (n + ((List.replicate k (0 : Int)).map (Value.int .u8)).length)).toArray, ?_, ⟨by simp; omega, .inr ⟨g, cq, _, rfl, hbg, setRow_heap w g cur _ e _ hg, hroom, hcm, ?_, ?_⟩⟩, ⟨rfl, rfl, rfl, by simp, fun j hj => setRow_other w g j _ (by omega)⟩⟩
        · have hns : ¬ (k = 0) := by omega
          simp only [Builtin.append_]
          simp [run_underlying ht, run_underlying htn, sizeOf, typeInfo, zeroValue, hi, hz, hby, hsize, asInt, asIntOf, hw, hneg, h48, hroom, hns, Addr.add_lit]
          rw [noughts]
          simp at hst ⊢
          rw [hst]
          rfl
        · simp only [List.size_toArray, List.length_append, List.length_take, List.length_drop, List.length_map, List.length_replicate, Array.length_toList]
          omega
        · simp only [Nat.mul_one] at htake ⊢
          rw [htake, List.map_append]
          have : (xs.map (Value.int .u8) ++ (List.replicate k (0 : Int)).map (Value.int .u8)).length = n + k := by simp [hlx]
          rw [← this]
          exact List.take_left
    · have hold : (Builtin.firstCells i.size n (.slice q n cq)).run P w.drew = .ok (xs.map (Value.int .u8)).toArray w.drew := by
        cases q with
        | none =>
          have hn0 : n = 0 := by
            rcases hown.2 with ⟨hv, hn0⟩ | ⟨g, cap, cur, hv, _⟩
            · exact hn0
            · simp at hv
          subst hn0
          obtain rfl : xs = [] := List.eq_nil_of_length_eq_zero hlx
          simp [Builtin.firstCells]
        | some a =>
          obtain ⟨g, hg⟩ : ∃ g, some a = some ⟨g, 0, none⟩ := by
            rcases hown.2 with ⟨hv, hn0⟩ | ⟨g, cap, cur, hv, _⟩
            · simp at hv
            · simp only [Value.slice.injEq] at hv
              exact ⟨g, hv.1⟩
          cases hg
          exact run_firstCells_some (P := P) w.drew i.size n ⟨g, 0, none⟩ n cq _ (by simp [hsize, hlx]) (hown.drew.cells (g := g) rfl)
      have hr := Lib.run_append_grow_zeros (P := P) w t tn ty e i (.int .u8 0) .i64 .i64 ht htn hi hz q n cq _ hold k h0 (by omega) (by omega) (by omega) (by rw [hby]; omega) (growslice_fits (by omega) (by rw [hby]; omega))
      have hge := grownCap_ge w (n + k) cq e
      have hcm : grownCap w (n + k) cq e ≤ maxLen := grownCap_le_maxLen w (n + k) cq e (by unfold maxLen; omega)
      generalize grownCap w (n + k) cq e = G at hr hge hcm
      refine ⟨_, _, _, hr, ⟨by simp; omega, .inr ⟨w.heap.size, _, _, rfl, hbase, heap_alloc_new w.drew _, hge, hcm, ?_, ?_⟩⟩, (Below.refl _ _).drew.alloc (by simpa using hbase) _⟩
      · simp [size_zeroCells, Value.cells, hlx]
        omega
      · rw [noughts, noughts]
        simp only [Array.toList_append, List.map_append, Nat.mul_one]
        have : (xs.map (Value.int .u8) ++ (List.replicate k (0 : Int)).map (Value.int .u8)).length = n + k := by simp [hlx]
        rw [← this]
        exact List.take_left
theorem noteStep_any (n : Nat) (w : World) (hn : n ≤ 200) :
    Calls Tryz.prog 56 #[.int .i64 n] w fun e w' => e = .returned (.int .i64 (if n ≤ 94 then 32 else 96)) ∧ w' = w := by
  by_cases h : n ≤ 94
  · rw [if_pos h]
    have c0 : (2 : Int) + (n : Int) ≤ 96 := by omega
    go_enter Tryz.func56, Tryz.ntmps56
    go_wp2
    go_ret
    exact ⟨rfl, rfl⟩
  · rw [if_neg h]
    have c0 : ¬ (2 : Int) + (n : Int) ≤ 96 := by omega
    go_enter Tryz.func56, Tryz.ntmps56
    go_wp2
    go_ret
    exact ⟨rfl, rfl⟩
set_option maxHeartbeats 4000000 in
theorem filled_any (s : Int) (gr m : Nat) (Pf : Nat → Option Addr) (nf cf : Nat → Nat) (xf : Nat → List Int) (Z : Nat) (w : World) (hs2 : s = 32 ∨ s = 96) (hZ : (s - ((sumN nf m : Nat) : Int) % s) % s = (Z : Int)) (hm : m ≤ 1000) (hcell : ∀ k, k < m → w.cell? ⟨gr, k, none⟩ = some (.slice (Pf k) (nf k) (cf k)))
    (hlen : ∀ k, k < m → (xf k).length = nf k) (hin : ∀ k, k < m → BytesIn w (Pf k) (nf k) (xf k)) (h0 : 0 < sumN nf m) (hs : sumN nf m ≤ 1073741824) :
    Calls Tryz.prog 55 #[.int .i64 s, .slice (some ⟨gr, 0, none⟩) m m] w fun e w' => ∃ p c, e = .returned (.slice p (sumN nf m + Z) c) ∧ Own 5 w' w.heap.size w'.heap.size (.slice p (sumN nf m + Z) c) (sumN nf m + Z) (catL xf m ++ List.replicate Z 0) ∧ Below w.heap.size w w' := by
  obtain ⟨i0, hi, hz0, hz1, hz2⟩ := info_parts infoByte
  have C := concat_any gr m Pf nf cf xf w hm hcell hlen hin h0 hs
  clear hcell hlen hin
  generalize sumN nf m = T at *
  generalize catL xf m = xs at *
  have lZ : Z ≤ 96 := by rcases hs2 with rfl | rfl <;> omega
  have ld : 0 ≤ s - (T : Int) % s ∧ s - (T : Int) % s ≤ 96 := by rcases hs2 with rfl | rfl <;> omega
  rcases hs2 with rfl | rfl
  all_goals
    go_enter Tryz.func55, Tryz.ntmps55
    go_wp2_with (fail)
    refine C.mono ?_
    rintro e w1 ⟨p1, c1, rfl, r1, b1⟩
    obtain ⟨p2, c2, w2, hrun, hown, hbel⟩ := run_append_noughts (P := Tryz.prog) (k := Z) 22 3 22 hi hz0 hz1 hz2 Tryz.underlying22 Tryz.underlying3 r1.1 (by omega) b1.size
    rw [← hZ] at hrun
    clear C hZ
    go_wp2_with (at_builtin; refine Lib.wpList_append_run _ rfl _ _ _ _ rfl _ _ rfl rfl _ _ hrun ?_)
    go_ret
    exact ⟨_, _, rfl, .of hown, b1.trans hbel⟩
theorem filled2 (s : Int) (p0 p1 : Option Addr) (n0 n1 c0 c1 Z : Nat) (xs0 xs1 : List Int) (w0 : World) (hs2 : s = 32 ∨ s = 96) (hZ : (s - ((n0 + n1 : Nat) : Int) % s) % s = (Z : Int)) (hx0 : xs0.length = n0) (hx1 : xs1.length = n1) (h0 : 0 < n0 + n1) (hs1 : n0 + n1 ≤ 1073741824) (i0 : BytesIn w0 p0 n0 xs0) (i1 : BytesIn w0 p1 n1 xs1) (gr : Nat) (hgr : w0.heap.size = gr) :
    Calls Tryz.prog 55 #[.int .i64 s, .slice (some ⟨gr, 0, none⟩) 2 2] (w0.alloc (.cells #[.slice p0 n0 c0, .slice p1 n1 c1] 22)) fun e w' =>
      ∃ p' c', e = .returned (.slice p' (n0 + n1 + Z) c') ∧ Own 5 w' w0.heap.size w'.heap.size (.slice p' (n0 + n1 + Z) c') (n0 + n1 + Z) (xs0 ++ xs1 ++ List.replicate Z 0) ∧ Below w0.heap.size w0 w' := by
  subst hgr
  have ba : Below w0.heap.size w0 (w0.alloc (.cells #[.slice p0 n0 c0, .slice p1 n1 c1] 22)) := (Below.refl _ _).alloc (Nat.le_refl _) _
  have hs : sumN (fun k => match k with | 0 => n0 | _ => n1) 2 = n0 + n1 := by simp [sumN]
  have hc : catL (fun k => match k with | 0 => xs0 | _ => xs1) 2 = xs0 ++ xs1 := by simp [catL]
  have h := filled_any s w0.heap.size 2 (fun k => match k with | 0 => p0 | _ => p1) (fun k => match k with | 0 => n0 | _ => n1) (fun k => match k with | 0 => c0 | _ => c1) (fun k => match k with | 0 => xs0 | _ => xs1) Z
    (w0.alloc (.cells #[.slice p0 n0 c0, .slice p1 n1 c1] 22)) hs2 (by rw [hs]; exact hZ) (by decide)
    (fun k hk => by
      rw [cell_of_row _ _ k _ _ _ (heap_alloc_new w0 _)]
      match k, hk with
      | 0, _ => rfl
      | 1, _ => rfl)
    (fun k hk => by
      match k, hk with
      | 0, _ => exact hx0
      | 1, _ => exact hx1)
    (fun k hk => by
      match k, hk with
      | 0, _ => exact in_below i0 ba
      | 1, _ => exact in_below i1 ba)
    (by rw [hs]; omega) (by rw [hs]; omega)
  rw [hs, hc] at h
  refine h.mono ?_
  rintro e w' ⟨p', c', rfl, r, b⟩
  exact ⟨p', c', rfl, ⟨owns_mono r.1 (by simp), r.2⟩, below_on ba b⟩
set_option maxHeartbeats 4000000 in
theorem implPadded_any (p : Option Addr) (n c : Nat) (xs : List Int) (w : World) (hx : xs.length = n) (h : BytesIn w p n xs) :
    Calls Tryz.prog 16 #[.slice p n c] w fun e w' => ∃ p' c', e = .returned (.slice p' (noteN n) c') ∧ Own 5 w' w.heap.size w'.heap.size (.slice p' (noteN n) c') (noteN n) (noteL xs) ∧ Below w.heap.size w w' := by
  unfold noteN noteL
  rw [hx]
  by_cases hn : n ≤ 200
  · rw [if_pos hn, if_pos hn]
    have C := fun w => implGreat_any (n : Int) 2 w (by omega)
    rw [(great2 hn).1, (great2 hn).2] at C
    have S := fun w => noteStep_any n w hn
    have c0 : ¬ (200 : Int) < (n : Int) := by omega
    obtain ⟨s, hs, hs2⟩ : ∃ s : Int, s = (if n ≤ 94 then 32 else 96) ∧ (s = 32 ∨ s = 96) := ⟨_, rfl, by split <;> simp⟩
    have hM := noteM_le n
    have hZ : (s - ((2 + n : Nat) : Int) % s) % s = ((noteM n - (n + 2) : Nat) : Int) := by
      unfold noteM at hM ⊢
      by_cases h94 : n ≤ 94
      · rw [if_pos h94] at hM hs ⊢
        subst hs
        omega
      · rw [if_neg h94] at hM hs ⊢
        subst hs
        omega
    simp only [← hs] at S
    clear hs
    have hM2 : noteM n = 2 + n + (noteM n - (n + 2)) := by omega
    have F := fun p0 c0 w0 i0 i1 gr hgr => filled2 s p0 p 2 n c0 c _ [0, (n : Int)] xs w0 hs2 hZ rfl hx (by omega) (by omega) i0 i1 gr hgr
    rw [hM2]
    generalize noteM n - (n + 2) = Z at F
    rw [show 2 + n + Z - (n + 2) = Z by omega]
    clear hM hM2 hZ hs2
    go_enter Tryz.func16, Tryz.ntmps16
    go_wp2_with (fail)
    refine (S _).mono ?_
    rintro e w1 ⟨rfl, rfl⟩
    go_wp2_with (fail)
    refine (C _).mono ?_
    rintro e w1 ⟨p1, c1, rfl, r1, b1⟩
    have h1 := in_below h b1
    have i0 := r1.bytes
    clear C S h r1
    go_wp2_with (fail)
    refine (F p1 c1 w1 i0 h1 _ rfl).mono ?_
    rintro e w2 ⟨p2, c2, rfl, r2, b2⟩
    clear F
    go_wp2_with (fail)
    go_ret
    exact ⟨_, _, rfl, .of (owns_mono r2.1 b1.size), below_on b1 b2⟩
  · rw [if_neg hn, if_neg hn]
    have c1 : (200 : Int) < (n : Int) := by omega
    clear h hx
    go_enter Tryz.func16, Tryz.ntmps16
    go_wp2
    go_ret
    exact ⟨none, 0, rfl, .of ⟨rfl, .inl ⟨rfl, rfl⟩⟩, Below.refl _ _⟩
end Go.Proofs.YtnpffnhiefgglaaGreatDoor
