/-
  What the program's mix makes of a hash that the call owns: its eight words, behind the 64 rounds, each with what it was. Conditions: words; the table of the rounds' numbers is as its text says, and lies ahead of the hash.
-/
import Derived.Test.YthfnechcddmjkaaGreatDoorParf02
import Derived.Deep.RegionHeld3
import Derived.Deep.MidRow
import Derived.BigRegion
namespace Go.Proofs.YthfnechcddmjkaaGreatDoor
open Go.RowKit

def u32L (l : List Nat) : List Value := l.map fun (n : Nat) => Value.int .u32 (n : Int)
def u8L (l : List Int) : List Value := l.map (Value.int .u8)
def hashC (S : List Nat) (L : List Int) (W : List Nat) : List Value := u32L S ++ (u8L L ++ u32L W)
def HashIn (ty n o : Nat) (A B : List Value) (w : World) (lo g : Nat) (S : List Nat) (L : List Int) (W : List Nat) : Prop :=
  S.length = 8 ∧ L.length = 64 ∧ W.length = 64 ∧ A.length = o ∧ w.ownsRow lo ty 1 (.slice (some ⟨g, 0, none⟩) n n) n (A ++ (hashC S L W ++ B))
abbrev HashIs (w : World) (lo g : Nat) (S : List Nat) (L : List Int) (W : List Nat) : Prop := HashIn 137 136 0 [] [] w lo g S L W
def KeysIs (w : World) : Prop := ∀ t, t < 64 → w.cell? ⟨1, t, none⟩ = some (.int .u32 ((keysL.getD t 0 : Nat) : Int))

theorem u32L_getElem? (l : List Nat) (i : Nat) (h : i < l.length) : (u32L l)[i]? = some (.int .u32 ((l.getD i 0 : Nat) : Int)) := by
  simp [u32L, List.getElem?_eq_getElem h]
section
variable {ty n o : Nat} {A B : List Value} {w w' : World} {lo g : Nat} {S : List Nat} {L : List Int} {W : List Nat}
theorem hashC_length (h1 : S.length = 8) (h2 : L.length = 64) (h3 : W.length = 64) : (hashC S L W).length = 136 := by simp [hashC, u32L, u8L, h1, h2, h3]
theorem HashIn.fits (h : HashIn ty n o A B w lo g S L W) : o + 136 ≤ n := by
  obtain ⟨h1, h2, h3, h5, h4⟩ := h
  have hl := h4.1
  simp only [List.length_append, hashC_length h1 h2 h3, Nat.mul_one] at hl
  omega
theorem HashIn.cell (h : HashIn ty n o A B w lo g S L W) (i : Nat) (hi : i < 136) : w.cell? ⟨g, o + i, none⟩ = (hashC S L W)[i]? := by
  have hf := h.fits
  obtain ⟨h1, h2, h3, h5, h4⟩ := h
  rw [h4.cellAt (o + i) (by omega), List.getElem?_append_right (by omega), List.getElem?_append_left (by rw [hashC_length h1 h2 h3]; omega), show o + i - A.length = i by omega]
theorem HashIn.state (h : HashIn ty n o A B w lo g S L W) (i : Nat) (hi : i < 8) : w.cell? ⟨g, o + i, none⟩ = some (.int .u32 ((S.getD i 0 : Nat) : Int)) := by
  have h1 := h.1
  rw [h.cell i (by omega), hashC, List.getElem?_append_left (by simp [u32L]; omega), u32L_getElem? _ _ (by omega)]
theorem HashIn.spread (h : HashIn ty n o A B w lo g S L W) (i : Nat) (hi : i < 64) : w.cell? ⟨g, o + 72 + i, none⟩ = some (.int .u32 ((W.getD i 0 : Nat) : Int)) := by
  have hc := h.cell (72 + i) (by omega)
  obtain ⟨h1, h2, h3, h5, h4⟩ := h
  rw [Nat.add_assoc, hc, hashC, List.getElem?_append_right (by simp [u32L]; omega), List.getElem?_append_right (by simp [u32L, u8L]; omega), show 72 + i - (u32L S).length - (u8L L).length = i by simp [u32L, u8L]; omega, u32L_getElem? _ _ (by omega)]
theorem HashIn.lt (h : HashIn ty n o A B w lo g S L W) : lo ≤ g ∧ g < w.heap.size := h.2.2.2.2.lt g rfl
theorem HashIn.below (h : HashIn ty n o A B w lo g S L W) (hb : Below w.heap.size w w') : HashIn ty n o A B w' lo g S L W := ⟨h.1, h.2.1, h.2.2.1, h.2.2.2.1, owns_below h.2.2.2.2 hb⟩
theorem HashIn.frozen (h : HashIn ty n o A B w lo g S L W) (j : Nat) : w.frozen? ⟨g, j, none⟩ = false := h.2.2.2.2.frozenAt j

theorem hashC_set (S : List Nat) (L : List Int) (W : List Nat) (k u : Nat) (h : k < S.length) : (hashC S L W).set k (.int .u32 (u : Int)) = hashC (S.set k u) L W := by
  rw [hashC, hashC, List.set_append_left _ _ (by simp [u32L]; exact h)]
  simp [u32L, List.map_set]
theorem winC_set (hA : A.length = o) (S : List Nat) (L : List Int) (W : List Nat) (k u : Nat) (h : k < S.length) : (A ++ (hashC S L W ++ B)).set (o + k) (.int .u32 (u : Int)) = A ++ (hashC (S.set k u) L W ++ B) := by
  rw [List.set_append_right _ _ (by omega), List.set_append_left _ _ (by simp [hashC, u32L]; omega), show o + k - A.length = k by omega, hashC_set _ _ _ _ _ h]
end
theorem below_grown {a w : World} {r : Option Nat} (h : Below a.heap.size a w) : a.grownBy w r := ⟨h.os, h.tape, h.output, h.size, fun k hk _ => h.block k hk⟩
def mixS (T S : List Nat) (k : Nat) : List Nat := T.take k ++ S.drop k
theorem mixS_length {T S : List Nat} (hT : T.length = 8) (hS : S.length = 8) (k : Nat) : (mixS T S k).length = 8 := by simp [mixS, hT, hS]; omega
theorem mixS_getD {T S : List Nat} (hT : T.length = 8) (k : Nat) (hk : k < 8) : (mixS T S k).getD k 0 = S.getD k 0 := by
  simp only [mixS, List.getD_eq_getElem?_getD]
  rw [List.getElem?_append_right (by simp; omega)]
  simp [hT, Nat.min_eq_left (show k ≤ 8 by omega)]
theorem mixS_set {T S : List Nat} (hT : T.length = 8) (hS : S.length = 8) (k : Nat) (hk : k < 8) (u : Nat) (hu : u = T.getD k 0) : (mixS T S k).set k u = mixS T S (k + 1) := by
  subst hu
  have e : S.drop k = S[k]'(by omega) :: S.drop (k + 1) := List.drop_eq_getElem_cons (by omega)
  simp only [mixS]
  have hk0 : k - (T.take k).length = 0 := by simp [hT]; omega
  rw [e, List.set_append_right _ _ (by rw [List.length_take]; omega), hk0, List.set_cons_zero, List.take_succ_eq_append_getElem (by omega), List.append_assoc, List.getD_eq_getElem?_getD, List.getElem?_eq_getElem (by omega)]
  rfl

set_option maxRecDepth 100000 in
set_option maxHeartbeats 16000000 in
theorem mix_any (ty n o : Nat) (A B : List Value) (lo g : Nat) (S : List Nat) (L : List Int) (W : List Nat) (w : World) (hS : ∀ x ∈ S, x < 4294967296) (hW : ∀ x ∈ W, x < 4294967296) (h : HashIn ty n o A B w lo g S L W) (hK : KeysIs w) (hlo : 1 < lo) :
    Calls Tryz.prog 175 #[.pointer (some ⟨g, o, none⟩)] w fun e w' => e = .returned (.tuple #[]) ∧ HashIn ty n o A B w' lo g (addL S (roundsN W (stOf S) 64).list) L W ∧ w.grownBy w' (some g) := by
  have c0 : w.cell? ⟨g, o, none⟩ = _ := h.state 0 (by omega)
  have c1 := h.state 1 (by omega)
  have c2 := h.state 2 (by omega)
  have c3 := h.state 3 (by omega)
  have c4 := h.state 4 (by omega)
  have c5 := h.state 5 (by omega)
  have c6 := h.state 6 (by omega)
  have c7 := h.state 7 (by omega)
  have hglt := h.lt
  have hst : Hid (stOf S = ⟨S.getD 0 0, S.getD 1 0, S.getD 2 0, S.getD 3 0, S.getD 4 0, S.getD 5 0, S.getD 6 0, S.getD 7 0⟩) := rfl
  generalize S.getD 0 0 = s0 at c0 hst
  generalize S.getD 1 0 = s1 at c1 hst
  generalize S.getD 2 0 = s2 at c2 hst
  generalize S.getD 3 0 = s3 at c3 hst
  generalize S.getD 4 0 = s4 at c4 hst
  generalize S.getD 5 0 = s5 at c5 hst
  generalize S.getD 6 0 = s6 at c6 hst
  generalize S.getD 7 0 = s7 at c7 hst
  go_enter Tryz.func175, Tryz.ntmps175
  go_wp2_with (fail)
  have hown0 : (w.alloc (.cells #[.int .u32 (s0 : Int), .int .u32 (s1 : Int), .int .u32 (s2 : Int), .int .u32 (s3 : Int), .int .u32 (s4 : Int), .int .u32 (s5 : Int), .int .u32 (s6 : Int), .int .u32 (s7 : Int)] 132)).ownsRow w.heap.size 132 1 (.slice (some ⟨w.heap.size, 0, none⟩) 8 8) 8 (u32L [s0, s1, s2, s3, s4, s5, s6, s7]) :=
    ⟨rfl, .inr ⟨w.heap.size, 8, _, rfl, Nat.le_refl _, heap_alloc_new w _, Nat.le_refl _, by unfold maxLen; omega, rfl, rfl⟩⟩
  have hr0 : Hid (roundsN W (stOf S) 0 = ⟨s0, s1, s2, s3, s4, s5, s6, s7⟩) := hst.out
  have hrok : ∀ t, (roundsN W (stOf S) t).ok := roundsN_ok W (stOf_ok hS)
  have HG : Hid (∀ wX, Below w.heap.size w wX → HashIn ty n o A B wX lo g S L W ∧ KeysIs wX) := fun wX hX => ⟨h.below hX, fun t ht => (hX.cell (p := ⟨1, t, none⟩) (show 1 < w.heap.size by omega)).trans (hK t ht)⟩
  clear hst c0 c1 c2 c3 c4 c5 c6 c7 h hK
  go_loopw [11] (fun i wr => ∃ (t : Nat) (va vb vc vd ve vf vg vh : Nat), t ≤ 64 ∧ i = .int .i64 t ∧ Hid (roundsN W (stOf S) t = ⟨va, vb, vc, vd, ve, vf, vg, vh⟩) ∧ wr.ownsRow w.heap.size 132 1 (.slice (some ⟨w.heap.size, 0, none⟩) 8 8) 8 (u32L [va, vb, vc, vd, ve, vf, vg, vh]) ∧ Below w.heap.size w wr)
    (fun i _ => 64 - (intOf i).toNat)
  case atStart => exact ⟨0, s0, s1, s2, s3, s4, s5, s6, s7, by omega, rfl, hr0, hown0, (Below.refl _ _).alloc (Nat.le_refl _) _⟩
  case round =>
    clear hr0 hown0
    obtain ⟨t, va, vb, vc, vd, ve, vf, vg, vh, ht, rfl, hr, hs, hb⟩ := hrel
    have hok := hrok t
    rw [hr.out] at hok
    obtain ⟨o1, o2, o3, o4, o5, o6, o7, o8⟩ := hok
    simp only at o1 o2 o3 o4 o5 o6 o7 o8
    by_cases hlt : t < 64
    · have kl := getD_lt keysL_lt (by decide) t
      have wl := getD_lt hW (by decide) t
      have HR : Hid (roundsN W (stOf S) (t + 1) = stepN ⟨va, vb, vc, vd, ve, vf, vg, vh⟩ (keysL.getD t 0) (W.getD t 0)) := by rw [Hid, ← hr.out]; rfl
      simp only [stepN, t1N, t2N] at HR
      have F0 : ∀ wX, wX.ownsRow w.heap.size 132 1 (.slice (some ⟨w.heap.size, 0, none⟩) 8 8) 8 (u32L [va, vb, vc, vd, ve, vf, vg, vh]) → Below w.heap.size w wX → wX.cell? ⟨w.heap.size, 0, none⟩ = some (.int .u32 (va : Int)) ∧ wX.cell? ⟨w.heap.size, 1, none⟩ = some (.int .u32 (vb : Int)) ∧ wX.cell? ⟨w.heap.size, 2, none⟩ = some (.int .u32 (vc : Int)) ∧ wX.cell? ⟨w.heap.size, 3, none⟩ = some (.int .u32 (vd : Int)) ∧ wX.cell? ⟨w.heap.size, 4, none⟩ = some (.int .u32 (ve : Int)) ∧ wX.cell? ⟨w.heap.size, 5, none⟩ = some (.int .u32 (vf : Int)) ∧ wX.cell? ⟨w.heap.size, 6, none⟩ = some (.int .u32 (vg : Int)) ∧ wX.cell? ⟨w.heap.size, 7, none⟩ = some (.int .u32 (vh : Int)) ∧ wX.cell? ⟨1, t, none⟩ = some (.int .u32 ((keysL.getD t 0 : Nat) : Int)) ∧ wX.cell? ⟨g, o + 72 + t, none⟩ = some (.int .u32 ((W.getD t 0 : Nat) : Int)) := by
        intro wX hX hbX
        obtain ⟨hI, hKX⟩ := HG.out wX hbX
        exact ⟨hX.cellAt 0 (by omega), hX.cellAt 1 (by omega), hX.cellAt 2 (by omega), hX.cellAt 3 (by omega), hX.cellAt 4 (by omega), hX.cellAt 5 (by omega), hX.cellAt 6 (by omega), hX.cellAt 7 (by omega), hKX t hlt, hI.spread t hlt⟩
      generalize keysL.getD t 0 = kt at kl HR F0
      generalize W.getD t 0 = wt at wl HR F0
      replace F0 : Hid (∀ wX, wX.ownsRow w.heap.size 132 1 (.slice (some ⟨w.heap.size, 0, none⟩) 8 8) 8 (u32L [va, vb, vc, vd, ve, vf, vg, vh]) → Below w.heap.size w wX → wX.cell? ⟨w.heap.size, 0, none⟩ = some (.int .u32 (va : Int)) ∧ wX.cell? ⟨w.heap.size, 1, none⟩ = some (.int .u32 (vb : Int)) ∧ wX.cell? ⟨w.heap.size, 2, none⟩ = some (.int .u32 (vc : Int)) ∧ wX.cell? ⟨w.heap.size, 3, none⟩ = some (.int .u32 (vd : Int)) ∧ wX.cell? ⟨w.heap.size, 4, none⟩ = some (.int .u32 (ve : Int)) ∧ wX.cell? ⟨w.heap.size, 5, none⟩ = some (.int .u32 (vf : Int)) ∧ wX.cell? ⟨w.heap.size, 6, none⟩ = some (.int .u32 (vg : Int)) ∧ wX.cell? ⟨w.heap.size, 7, none⟩ = some (.int .u32 (vh : Int)) ∧ wX.cell? ⟨1, t, none⟩ = some (.int .u32 (kt : Int)) ∧ wX.cell? ⟨g, o + 72 + t, none⟩ = some (.int .u32 (wt : Int))) := F0
      have lch := chN_lt (e := ve) o6 o7
      have lmj := majN_lt (a := va) o2 o3
      have C1 := fun w => greatMix1_same ve w o5
      have C0 := fun w => greatMix0_same va w o1
      have CC := fun w => choice_same ve vf vg w o5 o6 o7
      have CM := fun w => majority_same va vb vc w o1 o2 o3
      have n1 := greatN_lt (a := 6) (b := 11) (c := 25) o5 (by decide) (by decide) (by decide)
      have n0 := greatN_lt (a := 2) (b := 13) (c := 22) o1 (by decide) (by decide) (by decide)
      generalize chN ve vf vg = ch at CC lch HR
      generalize majN va vb vc = mj at CM lmj HR
      generalize greatN ve 6 11 25 = r1 at C1 n1 HR
      generalize greatN va 2 13 22 = r0 at C0 n0 HR
      obtain ⟨x1, hx1⟩ : ∃ x1 : Nat, x1 = (vh + r1) % 4294967296 := ⟨_, rfl⟩
      have mx1 : ((vh : Int) + (r1 : Int)) % 4294967296 = (x1 : Int) := by omega
      have wx1 : IntKind.u32.wrap ((vh : Int) + (r1 : Int)) = (x1 : Int) := by rw [IntKind.wrap_u32]; exact mx1
      have nx1 : x1 < 4294967296 := by omega
      obtain ⟨x2, hx2⟩ : ∃ x2 : Nat, x2 = (x1 + ch) % 4294967296 := ⟨_, rfl⟩
      have mx2 : ((x1 : Int) + (ch : Int)) % 4294967296 = (x2 : Int) := by omega
      have wx2 : IntKind.u32.wrap ((x1 : Int) + (ch : Int)) = (x2 : Int) := by rw [IntKind.wrap_u32]; exact mx2
      have nx2 : x2 < 4294967296 := by omega
      obtain ⟨x3, hx3⟩ : ∃ x3 : Nat, x3 = (x2 + kt) % 4294967296 := ⟨_, rfl⟩
      have mx3 : ((x2 : Int) + (kt : Int)) % 4294967296 = (x3 : Int) := by omega
      have wx3 : IntKind.u32.wrap ((x2 : Int) + (kt : Int)) = (x3 : Int) := by rw [IntKind.wrap_u32]; exact mx3
      have nx3 : x3 < 4294967296 := by omega
      obtain ⟨T1, hT1⟩ : ∃ T1 : Nat, T1 = (x3 + wt) % 4294967296 := ⟨_, rfl⟩
      have mT1 : ((x3 : Int) + (wt : Int)) % 4294967296 = (T1 : Int) := by omega
      have wT1 : IntKind.u32.wrap ((x3 : Int) + (wt : Int)) = (T1 : Int) := by rw [IntKind.wrap_u32]; exact mT1
      have nT1 : T1 < 4294967296 := by omega
      obtain ⟨T2, hT2⟩ : ∃ T2 : Nat, T2 = (r0 + mj) % 4294967296 := ⟨_, rfl⟩
      have mT2 : ((r0 : Int) + (mj : Int)) % 4294967296 = (T2 : Int) := by omega
      have wT2 : IntKind.u32.wrap ((r0 : Int) + (mj : Int)) = (T2 : Int) := by rw [IntKind.wrap_u32]; exact mT2
      have nT2 : T2 < 4294967296 := by omega
      obtain ⟨A, hA⟩ : ∃ A : Nat, A = (T1 + T2) % 4294967296 := ⟨_, rfl⟩
      have mA : ((T1 : Int) + (T2 : Int)) % 4294967296 = (A : Int) := by omega
      have wA : IntKind.u32.wrap ((T1 : Int) + (T2 : Int)) = (A : Int) := by rw [IntKind.wrap_u32]; exact mA
      have nA : A < 4294967296 := by omega
      obtain ⟨E, hE⟩ : ∃ E : Nat, E = (vd + T1) % 4294967296 := ⟨_, rfl⟩
      have mE : ((vd : Int) + (T1 : Int)) % 4294967296 = (E : Int) := by omega
      have wE : IntKind.u32.wrap ((vd : Int) + (T1 : Int)) = (E : Int) := by rw [IntKind.wrap_u32]; exact mE
      have nE : E < 4294967296 := by omega
      have hA2 : (vh + r1 + ch + kt + wt + (r0 + mj)) % 4294967296 = A := by omega
      have hE2 : (vd + (vh + r1 + ch + kt + wt)) % 4294967296 = E := by omega
      rw [hA2, hE2] at HR
      clear hx1 hx2 hx3 hT1 hT2 hA hE hA2 hE2 hr
      have hgw : o + 72 + t < o + 136 := by omega
      obtain ⟨e0, e1, e2, e3, e4, e5, e6, e7, ek, ew⟩ := F0.out wr hs hb
      go_wp2_with (fail)
      go_quiet (first | (go_at_call 201; exact Calls.quiet_of_same (C1 _)) | (go_at_call 202; exact Calls.quiet_of_same (CC _)))
      obtain ⟨w5, hw5⟩ : ∃ w5, w5 = wr.drewN nq := ⟨_, rfl⟩
      rw [← hw5]
      have b5 : Below wr.heap.size wr w5 := by rw [hw5]; exact below_drewN (Below.refl _ _) _
      clear hw5 e0 e1 e2 e3 e4 e5 e6 e7 ek ew
      replace hs := owns_below hs b5
      replace hb := below_on hb b5
      obtain ⟨e0, e1, e2, e3, e4, e5, e6, e7, ek, ew⟩ := F0.out w5 hs hb
      go_wp2_with (fail)
      go_quiet (first | (go_at_call 203; exact Calls.quiet_of_same (C0 _)) | (go_at_call 204; exact Calls.quiet_of_same (CM _)))
      obtain ⟨w6, hw6⟩ : ∃ w6, w6 = w5.drewN nq := ⟨_, rfl⟩
      rw [← hw6]
      have b6 : Below w5.heap.size w5 w6 := by rw [hw6]; exact below_drewN (Below.refl _ _) _
      clear hw6 e0 e1 e2 e3 e4 e5 e6 e7 ek ew
      replace hs := owns_below hs b6
      replace hb := below_on hb b6
      obtain ⟨e0, e1, e2, e3, e4, e5, e6, e7, ek, ew⟩ := F0.out w6 hs hb
      have z0 := hs.stored 0 (.int .u32 (A : Int))
      have z1 := z0.1.stored 1 (.int .u32 (va : Int))
      have z2 := z1.1.stored 2 (.int .u32 (vb : Int))
      have z3 := z2.1.stored 3 (.int .u32 (vc : Int))
      have z4 := z3.1.stored 4 (.int .u32 (E : Int))
      have z5 := z4.1.stored 5 (.int .u32 (ve : Int))
      have z6 := z5.1.stored 6 (.int .u32 (vf : Int))
      have z7 := z6.1.stored 7 (.int .u32 (vg : Int))
      have hfr := hs.frozenAt
      have f0 := hfr 0
      have f1 := hfr 1
      have f2 := hfr 2
      have f3 := hfr 3
      have f4 := hfr 4
      have f5 := hfr 5
      have f6 := hfr 6
      have f7 := hfr 7
      have HG8 : Hid (w6.grownBy _ (some w.heap.size)) := grown_trans z0.2 (grown_trans z1.2 (grown_trans z2.2 (grown_trans z3.2 (grown_trans z4.2 (grown_trans z5.2 (grown_trans z6.2 z7.2))))))
      have hs8 := z7.1
      clear z0 z1 z2 z3 z4 z5 z6 z7 hfr hs
      have hb8 := hb.grown HG8.out hb.size (fun k hk => by cases hk; exact Nat.le_refl _)
      clear HG8
      go_wp2
      go_roundw
      case rel => exact ⟨t + 1, A, va, vb, vc, E, ve, vf, vg, by omega, by go_num, HR, hs8, hb8⟩
      case measure => simp [intOf]; omega
    · have e64 : t = 64 := by omega
      rw [e64] at hr
      clear e64
      obtain ⟨hI, _⟩ := HG.out wr hb
      have hl1 := hI.1
      have hT : Hid (addL S (roundsN W (stOf S) 64).list = addL S [va, vb, vc, vd, ve, vf, vg, vh]) := by rw [hr.out]; rfl
      have hnl : ∀ x ∈ [va, vb, vc, vd, ve, vf, vg, vh], x < 4294967296 := by
        intro x hx
        simp only [List.mem_cons, List.not_mem_nil, or_false] at hx
        omega
      have hn8 : [va, vb, vc, vd, ve, vf, vg, vh].length = 8 := rfl
      have hgr0 : w.grownBy wr (some g) := below_grown hb
      have hne : g ≠ w.heap.size := by omega
      generalize [va, vb, vc, vd, ve, vf, vg, vh] = now at hs hT hnl hn8
      have hTl := addL_length S now
      have HTD : Hid (∀ k, k < 8 → (addL S now).getD k 0 = (S.getD k 0 + now.getD k 0) % 4294967296) := fun k hk => by simp [addL, hk]
      generalize addL S now = T at hT hTl HTD
      clear hr hrok HG o1 o2 o3 o4 o5 o6 o7 o8 hb
      go_wp2_with (fail)
      go_loopw [71] (fun i wX => ∃ k : Nat, k ≤ 8 ∧ i = .int .i64 k ∧ HashIn ty n o A B wX lo g (mixS T S k) L W ∧ wX.ownsRow w.heap.size 132 1 (.slice (some ⟨w.heap.size, 0, none⟩) 8 8) 8 (u32L now) ∧ w.grownBy wX (some g))
        (fun i _ => 8 - (intOf i).toNat)
      case atStart => exact ⟨0, by omega, rfl, by simpa [mixS] using hI, hs, hgr0⟩
      case round =>
        clear hI hs hgr0
        obtain ⟨k, hk, rfl, hI, hs, hgr⟩ := hrel
        by_cases hlt8 : k < 8
        · have hml := mixS_length hTl hl1 k
          have cs := hI.state k hlt8
          rw [mixS_getD hTl k hlt8] at cs
          have cn : wr.cell? ⟨w.heap.size, k, none⟩ = some (.int .u32 ((now.getD k 0 : Nat) : Int)) := by rw [hs.cellAt k (by omega), u32L_getElem? _ _ (by omega)]
          have la := getD_lt hS (by decide) k
          have lb := getD_lt hnl (by decide) k
          have hTk := HTD.out k hlt8
          have hfr := hI.frozen (o + k)
          generalize S.getD k 0 = a at cs la hTk
          generalize now.getD k 0 = b at cn lb hTk
          obtain ⟨u, hu⟩ : ∃ u : Nat, u = (a + b) % 4294967296 := ⟨_, rfl⟩
          have mu : ((a : Int) + (b : Int)) % 4294967296 = (u : Int) := by omega
          have wu : IntKind.u32.wrap ((a : Int) + (b : Int)) = (u : Int) := by rw [IntKind.wrap_u32]; exact mu
          obtain ⟨k1, k2, k3, k5, k4⟩ := hI
          have st := k4.stored (o + k) (.int .u32 (u : Int))
          rw [winC_set k5 _ _ _ _ _ (by omega), mixS_set hTl hl1 k hlt8 u (by rw [hTk, hu])] at st
          have hs' := hs.kept st.2 (.inr (by simp [Value.ownBlock]; omega))
          have hgr' := grown_trans hgr st.2
          have hml2 := mixS_length hTl hl1 (k + 1)
          have st' : HashIn ty n o A B _ lo g (mixS T S (k + 1)) L W := ⟨hml2, k2, k3, k5, st.1⟩
          clear k1 k2 k3 k4 k5 hml2 hs hgr st hu hTk hml
          go_wp2_with (fail)
          go_region
          all_goals
            go_wp2
            go_roundw
            case rel => exact ⟨k + 1, by omega, by go_num, st', hs', ⟨hgr'.os, hgr'.tape, hgr'.output, hgr'.size, hgr'.block⟩⟩
            case measure => simp [intOf]; omega
        · have hk8 : k = 8 := by omega
          have hfin : mixS T S k = T := by simp [mixS, hk8, List.take_of_length_le (show T.length ≤ 8 by omega), List.drop_of_length_le (show S.length ≤ 8 by omega)]
          rw [hfin] at hI
          clear hfin hk8
          go_wp2
          go_end0
          rw [hT.out]
          exact ⟨rfl, hI, hgr⟩

end Go.Proofs.YthfnechcddmjkaaGreatDoor
