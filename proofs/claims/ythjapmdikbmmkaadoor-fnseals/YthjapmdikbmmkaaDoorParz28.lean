/-
  A part of the proof.
-/
import Derived.Test.YthjapmdikbmmkaaDoorParz27
import Derived.Test.YthjapmdikbmmkaaDoorParz12
namespace Go.Proofs.YthjapmdikbmmkaaDoor
open Go.RowKit
set_option maxRecDepth 100000
set_option maxHeartbeats 4000000 in
theorem specOpen_no1 (kp np ap bp : Option Addr) (kn kc nn nc an ac bn bc : Nat) (w : World) (h1 : ¬ (kn : Int) = 32) (hb : (bn : Int) ≤ 1048576) :
    Calls Tryd.prog 12 #[.slice kp kn kc, .slice np nn nc, .slice ap an ac, .slice bp bn bc] w fun e w' => ∃ p' c', e = .returned (.tuple #[.slice p' 0 c', .bool false]) ∧ Below w.heap.size w w' := by
  have mb : Below w.drew.heap.size w.drew (w.drew.alloc (.cells #[] 5)) := (Below.refl _ w.drew).alloc (Nat.le_refl _) _
  have mb' : Below w.heap.size w (w.drew.alloc (.cells #[] 5)) := (Below.refl _ w).drew.trans mb
  have z1 : ((kn : Int) != 32) = true := by simp; omega
  go_enter Tryd.func12, Tryd.ntmps12
  go_wp2_with (fail)
  go_region
  go_wp2_with (fail)
  go_ret2
  first | exact mb' | exact ⟨⟨_, _, rfl⟩, mb'⟩ | exact ⟨_, _, rfl, mb'⟩
set_option maxHeartbeats 4000000 in
theorem specOpen_no2 (kp np ap bp : Option Addr) (kn kc nn nc an ac bn bc : Nat) (w : World) (h1 : (kn : Int) = 32) (h2 : ¬ (nn : Int) = 12) (hb : (bn : Int) ≤ 1048576) :
    Calls Tryd.prog 12 #[.slice kp kn kc, .slice np nn nc, .slice ap an ac, .slice bp bn bc] w fun e w' => ∃ p' c', e = .returned (.tuple #[.slice p' 0 c', .bool false]) ∧ Below w.heap.size w w' := by
  have mb : Below w.drew.heap.size w.drew (w.drew.alloc (.cells #[] 5)) := (Below.refl _ w.drew).alloc (Nat.le_refl _) _
  have mb' : Below w.heap.size w (w.drew.alloc (.cells #[] 5)) := (Below.refl _ w).drew.trans mb
  have z1 : ((kn : Int) != 32) = false := by simp [h1]
  have z2 : ((nn : Int) != 12) = true := by simp; omega
  go_enter Tryd.func12, Tryd.ntmps12
  go_wp2_with (fail)
  go_region
  go_wp2_with (fail)
  go_ret2
  first | exact mb' | exact ⟨⟨_, _, rfl⟩, mb'⟩ | exact ⟨_, _, rfl, mb'⟩
set_option maxHeartbeats 4000000 in
theorem specOpen_no3 (kp np ap bp : Option Addr) (kn kc nn nc an ac bn bc : Nat) (w : World) (h1 : (kn : Int) = 32) (h2 : (nn : Int) = 12) (h3 : ¬ (an : Int) ≤ 1500) (hb : (bn : Int) ≤ 1048576) :
    Calls Tryd.prog 12 #[.slice kp kn kc, .slice np nn nc, .slice ap an ac, .slice bp bn bc] w fun e w' => ∃ p' c', e = .returned (.tuple #[.slice p' 0 c', .bool false]) ∧ Below w.heap.size w w' := by
  have mb : Below w.drew.heap.size w.drew (w.drew.alloc (.cells #[] 5)) := (Below.refl _ w.drew).alloc (Nat.le_refl _) _
  have mb' : Below w.heap.size w (w.drew.alloc (.cells #[] 5)) := (Below.refl _ w).drew.trans mb
  have z1 : ((kn : Int) != 32) = false := by simp [h1]
  have z2 : ((nn : Int) != 12) = false := by simp [h2]
  have z3 : (1500 : Int) < (an : Int) := by omega
  go_enter Tryd.func12, Tryd.ntmps12
  go_wp2_with (fail)
  go_region
  go_wp2_with (fail)
  go_ret2
  first | exact mb' | exact ⟨⟨_, _, rfl⟩, mb'⟩ | exact ⟨_, _, rfl, mb'⟩
set_option maxHeartbeats 4000000 in
theorem specOpen_no4 (kp np ap bp : Option Addr) (kn kc nn nc an ac bn bc : Nat) (w : World) (h1 : (kn : Int) = 32) (h2 : (nn : Int) = 12) (h3 : (an : Int) ≤ 1500) (h4 : ¬ (0 ≤ (bn : Int) - 16 ∧ (bn : Int) - 16 ≤ 1500)) (hb : (bn : Int) ≤ 1048576) :
    Calls Tryd.prog 12 #[.slice kp kn kc, .slice np nn nc, .slice ap an ac, .slice bp bn bc] w fun e w' => ∃ p' c', e = .returned (.tuple #[.slice p' 0 c', .bool false]) ∧ Below w.heap.size w w' := by
  have mb : Below w.drew.heap.size w.drew (w.drew.alloc (.cells #[] 5)) := (Below.refl _ w.drew).alloc (Nat.le_refl _) _
  have mb' : Below w.heap.size w (w.drew.alloc (.cells #[] 5)) := (Below.refl _ w).drew.trans mb
  have CIN : ∀ X, Calls Tryd.prog 34 #[.int .i64 ((bn : Int) - 16), .int .i64 0, .int .i64 1500] X fun e w' => e = .returned (.bool false) ∧ w' = X := fun X => by
    have := l1In_is ((bn : Int) - 16) 0 1500 X
    rw [decide_eq_false h4] at this
    exact this
  clear h4
  have z1 : ((kn : Int) != 32) = false := by simp [h1]
  have z2 : ((nn : Int) != 12) = false := by simp [h2]
  have z3 : ¬ (1500 : Int) < (an : Int) := by omega
  go_enter Tryd.func12, Tryd.ntmps12
  go_wp2_with (fail)
  refine wp_region_noPanic ?_
  refine wp_region_held_drew (S := fun w' => True) (by kernel_rfl) (trivial) (fun hHeld => ?_)
  refine wpAnyH_take (i := 0) rfl (by kernel_rfl) (by kernel_rfl) (by kernel_rfl) (fun _ _ _ h => h) (Or.inl ⟨by rfl, fun X hSw => by ((try dsimp only at hSw); go_simp; try with_reducible rfl)⟩) hHeld ?_
  try walk_nrm
  refine wpAnyH_take (i := 1) rfl (by kernel_rfl) (by kernel_rfl) (by kernel_rfl) (fun _ _ _ h => h) (Or.inl ⟨by rfl, fun X hSw => by ((try dsimp only at hSw); go_simp; try with_reducible rfl)⟩) hHeld ?_
  try walk_nrm
  refine wpAnyH_take (i := 2) rfl (by kernel_rfl) (by kernel_rfl) (by kernel_rfl) (fun _ _ _ h => h) (Or.inl ⟨by rfl, fun X hSw => by ((try dsimp only at hSw); go_simp; try with_reducible rfl)⟩) hHeld ?_
  try walk_nrm
  refine wpAnyH_take (i := 3) rfl (by kernel_rfl) (by kernel_rfl) (by kernel_rfl) (fun _ _ _ h => h) (Or.inl ⟨by rfl, fun X hSw => by ((try dsimp only at hSw); go_simp; try with_reducible rfl)⟩) hHeld ?_
  try walk_nrm
  refine wpAnyH_take (i := 4) rfl (by kernel_rfl) (by kernel_rfl) (by kernel_rfl) (fun _ _ _ h => h) (Or.inl ⟨by rfl, fun X hSw => by ((try dsimp only at hSw); go_simp; try with_reducible rfl)⟩) hHeld ?_
  try walk_nrm
  refine wpAnyH_take (i := 5) rfl (by kernel_rfl) (by kernel_rfl) (by kernel_rfl) (fun _ _ _ h => h) (Or.inl ⟨by rfl, fun X hSw => by ((try dsimp only at hSw); go_simp; try with_reducible rfl)⟩) hHeld ?_
  try walk_nrm
  refine wpAnyH_take (i := 6) rfl (by kernel_rfl) (by kernel_rfl) (by kernel_rfl) (fun _ _ _ h => h) (Or.inl ⟨by rfl, fun X hSw => by ((try dsimp only at hSw); go_simp; try with_reducible rfl)⟩) hHeld ?_
  try walk_nrm
  refine wpAnyH_take (i := 7) rfl (by kernel_rfl) (by kernel_rfl) (by kernel_rfl) (fun _ _ _ h => h) (Or.inl ⟨by rfl, fun X hSw => by ((try dsimp only at hSw); go_simp; try with_reducible rfl)⟩) hHeld ?_
  try walk_nrm
  refine wpAnyH_take (i := 8) rfl (by kernel_rfl) (by kernel_rfl) (by kernel_rfl) (fun _ _ _ h => h) (Or.inl ⟨by rfl, fun X hSw => by ((try dsimp only at hSw); go_simp; try with_reducible rfl)⟩) hHeld ?_
  try walk_nrm
  refine wpAnyH_take (i := 9) rfl (by kernel_rfl) (by kernel_rfl) (by kernel_rfl) (fun _ _ _ h => h) (Or.inl ⟨by rfl, fun X hSw => by ((try dsimp only at hSw); go_simp; try with_reducible rfl)⟩) hHeld ?_
  try walk_nrm
  refine wpAnyH_take (i := 10) rfl (by kernel_rfl) (by kernel_rfl) (by kernel_rfl) (fun _ _ _ h => h) (Or.inl ⟨by rfl, fun X hSw => by ((try dsimp only at hSw); go_simp; try with_reducible rfl)⟩) hHeld ?_
  try walk_nrm
  refine wpAnyH_take (i := 11) (v := .bool false) rfl (by kernel_rfl) (by kernel_rfl) (by kernel_rfl) (fun _ _ _ h => h) (Or.inl ⟨by rfl, fun X hSw => by ((try dsimp only at hSw); go_simp <;> (try simp) <;> (try omega))⟩) hHeld ?_
  try walk_nrm
  refine wpAnyH_take (i := 12) rfl (by kernel_rfl) (by kernel_rfl) (by kernel_rfl) (fun _ _ _ h => h) (Or.inl ⟨by rfl, fun X hSw => by ((try dsimp only at hSw); go_simp; try with_reducible rfl)⟩) hHeld ?_
  try walk_nrm
  refine wpAnyH_take (i := 13) rfl (by kernel_rfl) (by kernel_rfl) (by kernel_rfl) (fun _ _ _ h => h) (Or.inl ⟨by rfl, fun X hSw => by ((try dsimp only at hSw); go_simp; try with_reducible rfl)⟩) hHeld ?_
  try walk_nrm
  refine wpAnyH_take (i := 14) rfl (by kernel_rfl) (by kernel_rfl) (by kernel_rfl) (fun _ _ _ h => h) (Or.inl ⟨by rfl, fun X hSw => by ((try dsimp only at hSw); go_simp; try with_reducible rfl)⟩) hHeld ?_
  try walk_nrm
  refine wpAnyH_ready (rs := [15]) (by kernel_rfl) (by simp) ?_
  refine AllReadyH.cons rfl (fun K hK => ?_) AllReadyH.nil
  go_simp
  refine (CIN _).mono ?_
  rintro z v15 ⟨rfl, rfl⟩
  go_wp2_with (fail)
  refine hK.out _ _ (trivial) (fun hHeld => ?_)
  clear hK K
  try walk_nrm
  refine wpAnyH_take (i := 16) rfl (by kernel_rfl) (by kernel_rfl) (by kernel_rfl) (fun _ _ _ h => h) (Or.inl ⟨by rfl, fun X hSw => by ((try dsimp only at hSw); go_simp; try with_reducible rfl)⟩) hHeld ?_
  try walk_nrm
  refine wpAnyH_take (i := 17) rfl (by kernel_rfl) (by kernel_rfl) (by kernel_rfl) (fun _ _ _ h => h) (Or.inl ⟨by rfl, fun X hSw => by ((try dsimp only at hSw); go_simp; try with_reducible rfl)⟩) hHeld ?_
  try walk_nrm
  refine wpAnyH_take (i := 18) rfl (by kernel_rfl) (by kernel_rfl) (by kernel_rfl) (fun _ _ _ h => h) (Or.inl ⟨by rfl, fun X hSw => by ((try dsimp only at hSw); go_simp; try with_reducible rfl)⟩) hHeld ?_
  try walk_nrm
  refine wpAnyH_take (i := 19) (v := undef) rfl (by kernel_rfl) (by kernel_rfl) (by kernel_rfl) (fun _ _ _ h => h) (Or.inr ⟨by rfl, rfl⟩) hHeld ?_
  try walk_nrm
  refine wpAnyH_take (i := 20) (v := undef) rfl (by kernel_rfl) (by kernel_rfl) (by kernel_rfl) (fun _ _ _ h => h) (Or.inr ⟨by rfl, rfl⟩) hHeld ?_
  try walk_nrm
  refine wpAnyH_take (i := 21) (v := undef) rfl (by kernel_rfl) (by kernel_rfl) (by kernel_rfl) (fun _ _ _ h => h) (Or.inr ⟨by rfl, rfl⟩) hHeld ?_
  try walk_nrm
  refine wpAnyH_take (i := 22) (v := undef) rfl (by kernel_rfl) (by kernel_rfl) (by kernel_rfl) (fun _ _ _ h => h) (Or.inr ⟨by rfl, rfl⟩) hHeld ?_
  try walk_nrm
  refine wpAnyH_take (i := 23) (v := undef) rfl (by kernel_rfl) (by kernel_rfl) (by kernel_rfl) (fun _ _ _ h => h) (Or.inr ⟨by rfl, rfl⟩) hHeld ?_
  try walk_nrm
  refine wpAnyH_take (i := 24) (v := undef) rfl (by kernel_rfl) (by kernel_rfl) (by kernel_rfl) (fun _ _ _ h => h) (Or.inr ⟨by rfl, rfl⟩) hHeld ?_
  try walk_nrm
  refine wpAnyH_take (i := 26) (v := undef) rfl (by kernel_rfl) (by kernel_rfl) (by kernel_rfl) (fun _ _ _ h => h) (Or.inr ⟨by rfl, rfl⟩) hHeld ?_
  try walk_nrm
  refine wpAnyH_take (i := 27) (v := undef) rfl (by kernel_rfl) (by kernel_rfl) (by kernel_rfl) (fun _ _ _ h => h) (Or.inr ⟨by rfl, rfl⟩) hHeld ?_
  try walk_nrm
  refine wpAnyH_take (i := 28) (v := undef) rfl (by kernel_rfl) (by kernel_rfl) (by kernel_rfl) (fun _ _ _ h => h) (Or.inr ⟨by rfl, rfl⟩) hHeld ?_
  try walk_nrm
  refine wpAnyH_take (i := 25) (v := undef) rfl (by kernel_rfl) (by kernel_rfl) (by kernel_rfl) (fun _ _ _ h => h) (Or.inr ⟨by rfl, rfl⟩) hHeld ?_
  try walk_nrm
  refine wpAnyH_take (i := 29) (v := undef) rfl (by kernel_rfl) (by kernel_rfl) (by kernel_rfl) (fun _ _ _ h => h) (Or.inr ⟨by rfl, rfl⟩) hHeld ?_
  try walk_nrm
  refine wpAnyH_take (i := 30) (v := undef) rfl (by kernel_rfl) (by kernel_rfl) (by kernel_rfl) (fun _ _ _ h => h) (Or.inr ⟨by rfl, rfl⟩) hHeld ?_
  try walk_nrm
  refine wpAnyH_take (i := 31) rfl (by kernel_rfl) (by kernel_rfl) (by kernel_rfl) (fun _ _ _ h => h) (Or.inl ⟨by rfl, fun X hSw => by ((try dsimp only at hSw); go_simp; try with_reducible rfl)⟩) hHeld ?_
  try walk_nrm
  refine wpAnyH_done (by kernel_rfl) ?_ _
  refine NoPanic.normal ?_
  go_wp2_with (fail)
  go_ret2
  first | exact mb' | exact ⟨⟨_, _, rfl⟩, mb'⟩ | exact ⟨_, _, rfl, mb'⟩
set_option maxHeartbeats 8000000 in
theorem specOpen_no5 (kp np ap : Option Addr) (b0 o0 kc nc an ac m bc : Nat) (KS NS AS BS : List Int) (w : World) (hK : KS.length = 32) (hN : NS.length = 12) (hA : AS.length = an) (hB : BS.length = m + 16) (han : an ≤ 1500) (hm : m ≤ 1500) (hbc : m + 16 ≤ bc) (ik : BytesIn w kp 32 KS) (im : BytesIn w np 12 NS) (ia : BytesIn w ap an AS) (ib : BytesIn w (some ⟨b0, o0, none⟩) (m + 16) BS)
    (bk : ∀ x ∈ KS, 0 ≤ x ∧ x < 256) (bm : ∀ x ∈ NS, 0 ≤ x ∧ x < 256) (ba : ∀ x ∈ AS, 0 ≤ x ∧ x < 256) (bb : ∀ x ∈ BS, 0 ≤ x ∧ x < 256) (hne : ¬ BS.drop m = stL KS NS AS (BS.take m)) :
    Calls Tryd.prog 12 #[.slice kp 32 kc, .slice np 12 nc, .slice ap an ac, .slice (some ⟨b0, o0, none⟩) (m + 16) bc] w fun e w' => ∃ p' c', e = .returned (.tuple #[.slice p' 0 c', .bool false]) ∧ Below w.heap.size w w' := by
  have CIN : ∀ X, Calls Tryd.prog 34 #[.int .i64 (m : Int), .int .i64 0, .int .i64 1500] X fun e w' => e = .returned (.bool true) ∧ w' = X := fun X => by
    have := l1In_is (m : Int) 0 1500 X
    rw [decide_eq_true (show 0 ≤ (m : Int) ∧ (m : Int) ≤ 1500 by omega)] at this
    exact this
  have hle : ttN an m ≤ 4000 := by
    have := fillN_lt an
    have := fillN_lt m
    unfold ttN
    omega
  have h16 : tagN 32 (ttN an m) = 16 := if_pos ⟨rfl, hle⟩
  have hTl : (BS.take m).length = m := by rw [List.length_take, hB]; omega
  have hDl : (BS.drop m).length = 16 := by rw [List.length_drop, hB]; omega
  have iT : BytesIn w (some ⟨b0, o0, none⟩) m (BS.take m) := fun h0 => by
    obtain ⟨b, o, e, hc⟩ := ib (by omega)
    refine ⟨b, o, e, fun i hi => ?_⟩
    have := hc i (by omega)
    rwa [List.getD_eq_getElem?_getD, List.getElem?_take, if_pos hi, ← List.getD_eq_getElem?_getD]
  have iD : BytesIn w (some ⟨b0, o0 + m, none⟩) 16 (BS.drop m) := fun h0 => by
    obtain ⟨b, o, e, hc⟩ := ib (by omega)
    obtain ⟨rfl, rfl⟩ : b0 = b ∧ o0 = o := by simpa using e
    refine ⟨b0, o0 + m, rfl, fun i hi => ?_⟩
    have := hc (m + i) (by omega)
    rw [List.getD_eq_getElem?_getD, List.getElem?_drop, ← List.getD_eq_getElem?_getD, Nat.add_assoc]
    exact this
  have CT := fun (X : World) (hX : Below w.heap.size w X) => l7Tag_any kp np ap (some ⟨b0, o0, none⟩) kc nc an ac m bc KS NS AS (BS.take m) X hK hN hA hTl (by omega) (by omega) (in_below ik hX) (in_below im hX) (in_below ia hX) (in_below iT hX) bk bm ba (fun x hx => bb x (List.mem_of_mem_take hx))
  simp only [h16] at CT
  have CD := fun (p : Option Addr) (c : Nat) (X : World) (hX : Below w.heap.size w X) (hp : BytesIn X p 16 (stL KS NS AS (BS.take m))) (hl : (stL KS NS AS (BS.take m)).length = 16) => specSame_any p (some ⟨b0, o0 + m, none⟩) 16 16 c (bc - m) (stL KS NS AS (BS.take m)) (BS.drop m) X hl hDl hp (in_below iD hX)
  have s1 := cut_to b0 o0 (m + 16) bc m (by omega)
  have s2 := cut_from b0 o0 (m + 16) bc m (by omega) (by omega)
  rw [show m + 16 - m = 16 by omega] at s2
  have hm0 : ((m + 16 : Nat) : Int) - 16 = (m : Int) := by omega
  have hm1 : (m : Int) ≤ 1500 := by omega
  have han1 : (an : Int) ≤ 1500 := by omega
  have bdr : Below w.heap.size w w.drew := (Below.refl _ w).drew
  have DQ : ((strOfNums (stL KS NS AS (BS.take m))).toList == (strOfNums (BS.drop m)).toList) = false := by
    rw [same_dec (show ∀ x ∈ stL KS NS AS (BS.take m), 0 ≤ x ∧ x < 256 from tagL_byte _ _) (fun x hx => bb x (List.mem_of_mem_drop hx))]
    exact decide_eq_false fun h => hne h.symm
  rw [DQ] at CD
  clear hne
  generalize stL KS NS AS (BS.take m) = TT at CT CD
  generalize bc - m = cd at s2 CD
  generalize o0 + m = om at s2 CD
  clear DQ ik im ia ib bk bm ba bb iT iD hDl hTl h16 hle hK hN hA hB han hm hbc
  go_enter Tryd.func12, Tryd.ntmps12
  go_wp2_with (fail)
  refine wp_region_noPanic ?_
  refine wp_region_held_drew (S := fun w' => True) (by kernel_rfl) (trivial) (fun hHeld => ?_)
  refine wpAnyH_take (i := 0) rfl (by kernel_rfl) (by kernel_rfl) (by kernel_rfl) (fun _ _ _ h => h) (Or.inl ⟨by rfl, fun X hSw => by ((try dsimp only at hSw); go_simp; try with_reducible rfl)⟩) hHeld ?_
  try walk_nrm
  refine wpAnyH_take (i := 1) rfl (by kernel_rfl) (by kernel_rfl) (by kernel_rfl) (fun _ _ _ h => h) (Or.inl ⟨by rfl, fun X hSw => by ((try dsimp only at hSw); go_simp; try with_reducible rfl)⟩) hHeld ?_
  try walk_nrm
  refine wpAnyH_take (i := 2) rfl (by kernel_rfl) (by kernel_rfl) (by kernel_rfl) (fun _ _ _ h => h) (Or.inl ⟨by rfl, fun X hSw => by ((try dsimp only at hSw); go_simp; try with_reducible rfl)⟩) hHeld ?_
  try walk_nrm
  refine wpAnyH_take (i := 3) rfl (by kernel_rfl) (by kernel_rfl) (by kernel_rfl) (fun _ _ _ h => h) (Or.inl ⟨by rfl, fun X hSw => by ((try dsimp only at hSw); go_simp; try with_reducible rfl)⟩) hHeld ?_
  try walk_nrm
  refine wpAnyH_take (i := 4) rfl (by kernel_rfl) (by kernel_rfl) (by kernel_rfl) (fun _ _ _ h => h) (Or.inl ⟨by rfl, fun X hSw => by ((try dsimp only at hSw); go_simp; try with_reducible rfl)⟩) hHeld ?_
  try walk_nrm
  refine wpAnyH_take (i := 5) rfl (by kernel_rfl) (by kernel_rfl) (by kernel_rfl) (fun _ _ _ h => h) (Or.inl ⟨by rfl, fun X hSw => by ((try dsimp only at hSw); go_simp; try with_reducible rfl)⟩) hHeld ?_
  try walk_nrm
  refine wpAnyH_take (i := 6) rfl (by kernel_rfl) (by kernel_rfl) (by kernel_rfl) (fun _ _ _ h => h) (Or.inl ⟨by rfl, fun X hSw => by ((try dsimp only at hSw); go_simp; try with_reducible rfl)⟩) hHeld ?_
  try walk_nrm
  refine wpAnyH_take (i := 7) rfl (by kernel_rfl) (by kernel_rfl) (by kernel_rfl) (fun _ _ _ h => h) (Or.inl ⟨by rfl, fun X hSw => by ((try dsimp only at hSw); go_simp; try with_reducible rfl)⟩) hHeld ?_
  try walk_nrm
  refine wpAnyH_take (i := 8) rfl (by kernel_rfl) (by kernel_rfl) (by kernel_rfl) (fun _ _ _ h => h) (Or.inl ⟨by rfl, fun X hSw => by ((try dsimp only at hSw); go_simp; try with_reducible rfl)⟩) hHeld ?_
  try walk_nrm
  refine wpAnyH_take (i := 9) rfl (by kernel_rfl) (by kernel_rfl) (by kernel_rfl) (fun _ _ _ h => h) (Or.inl ⟨by rfl, fun X hSw => by ((try dsimp only at hSw); go_simp; try with_reducible rfl)⟩) hHeld ?_
  try walk_nrm
  refine wpAnyH_take (i := 10) rfl (by kernel_rfl) (by kernel_rfl) (by kernel_rfl) (fun _ _ _ h => h) (Or.inl ⟨by rfl, fun X hSw => by ((try dsimp only at hSw); go_simp; try with_reducible rfl)⟩) hHeld ?_
  try walk_nrm
  refine wpAnyH_take (i := 11) (v := .bool false) rfl (by kernel_rfl) (by kernel_rfl) (by kernel_rfl) (fun _ _ _ h => h) (Or.inl ⟨by rfl, fun X hSw => by ((try dsimp only at hSw); go_simp <;> (try simp) <;> (try omega))⟩) hHeld ?_
  try walk_nrm
  refine wpAnyH_take (i := 12) rfl (by kernel_rfl) (by kernel_rfl) (by kernel_rfl) (fun _ _ _ h => h) (Or.inl ⟨by rfl, fun X hSw => by ((try dsimp only at hSw); go_simp; try with_reducible rfl)⟩) hHeld ?_
  try walk_nrm
  refine wpAnyH_take (i := 13) rfl (by kernel_rfl) (by kernel_rfl) (by kernel_rfl) (fun _ _ _ h => h) (Or.inl ⟨by rfl, fun X hSw => by ((try dsimp only at hSw); go_simp; try with_reducible rfl)⟩) hHeld ?_
  try walk_nrm
  refine wpAnyH_take (i := 14) rfl (by kernel_rfl) (by kernel_rfl) (by kernel_rfl) (fun _ _ _ h => h) (Or.inl ⟨by rfl, fun X hSw => by ((try dsimp only at hSw); go_simp; try with_reducible rfl)⟩) hHeld ?_
  try walk_nrm
  refine wpAnyH_ready (rs := [15]) (by kernel_rfl) (by simp) ?_
  refine AllReadyH.cons rfl (fun K hK => ?_) AllReadyH.nil
  go_simp
  refine (CIN _).mono ?_
  rintro z v15 ⟨rfl, rfl⟩
  go_wp2_with (fail)
  refine hK.out _ _ (trivial) (fun hHeld => ?_)
  clear hK K
  try walk_nrm
  refine wpAnyH_take (i := 16) rfl (by kernel_rfl) (by kernel_rfl) (by kernel_rfl) (fun _ _ _ h => h) (Or.inl ⟨by rfl, fun X hSw => by ((try dsimp only at hSw); go_simp; try with_reducible rfl)⟩) hHeld ?_
  try walk_nrm
  refine wpAnyH_take (i := 17) rfl (by kernel_rfl) (by kernel_rfl) (by kernel_rfl) (fun _ _ _ h => h) (Or.inl ⟨by rfl, fun X hSw => by ((try dsimp only at hSw); go_simp; try with_reducible rfl)⟩) hHeld ?_
  try walk_nrm
  refine wpAnyH_take (i := 18) rfl (by kernel_rfl) (by kernel_rfl) (by kernel_rfl) (fun _ _ _ h => h) (Or.inl ⟨by rfl, fun X hSw => by ((try dsimp only at hSw); go_simp; try with_reducible rfl)⟩) hHeld ?_
  try walk_nrm
  refine wpAnyH_take (i := 19) rfl (by kernel_rfl) (by kernel_rfl) (by kernel_rfl) (fun _ _ _ h => h) (Or.inl ⟨by rfl, fun X hSw => by ((try dsimp only at hSw); go_simp; try with_reducible rfl)⟩) hHeld ?_
  try walk_nrm
  refine wpAnyH_take (i := 20) rfl (by kernel_rfl) (by kernel_rfl) (by kernel_rfl) (fun _ _ _ h => h) (Or.inl ⟨by rfl, fun X hSw => by ((try dsimp only at hSw); go_simp; try with_reducible rfl)⟩) hHeld ?_
  try walk_nrm
  refine wpAnyH_take (i := 21) rfl (by kernel_rfl) (by kernel_rfl) (by kernel_rfl) (fun _ _ _ h => h) (Or.inl ⟨by rfl, fun X hSw => by ((try dsimp only at hSw); go_simp; try with_reducible rfl)⟩) hHeld ?_
  try walk_nrm
  refine wpAnyH_take (i := 22) rfl (by kernel_rfl) (by kernel_rfl) (by kernel_rfl) (fun _ _ _ h => h) (Or.inl ⟨by rfl, fun X hSw => by ((try dsimp only at hSw); go_simp; try with_reducible rfl)⟩) hHeld ?_
  try walk_nrm
  refine wpAnyH_take (i := 23) rfl (by kernel_rfl) (by kernel_rfl) (by kernel_rfl) (fun _ _ _ h => h) (Or.inl ⟨by rfl, fun X hSw => by ((try dsimp only at hSw); go_simp; try with_reducible rfl)⟩) hHeld ?_
  try walk_nrm
  refine wpAnyH_take (i := 24) rfl (by kernel_rfl) (by kernel_rfl) (by kernel_rfl) (fun _ _ _ h => h) (Or.inl ⟨by rfl, fun X hSw => by ((try dsimp only at hSw); go_simp; try with_reducible rfl)⟩) hHeld ?_
  try walk_nrm
  refine wpAnyH_take (i := 26) rfl (by kernel_rfl) (by kernel_rfl) (by kernel_rfl) (fun _ _ _ h => h) (Or.inl ⟨by rfl, fun X hSw => by ((try dsimp only at hSw); go_simp; try with_reducible rfl)⟩) hHeld ?_
  try walk_nrm
  refine wpAnyH_take (i := 27) rfl (by kernel_rfl) (by kernel_rfl) (by kernel_rfl) (fun _ _ _ h => h) (Or.inl ⟨by rfl, fun X hSw => by ((try dsimp only at hSw); go_simp; try with_reducible rfl)⟩) hHeld ?_
  try walk_nrm
  refine wpAnyH_take (i := 28) rfl (by kernel_rfl) (by kernel_rfl) (by kernel_rfl) (fun _ _ _ h => h) (Or.inl ⟨by rfl, fun X hSw => by ((try dsimp only at hSw); go_simp; try with_reducible rfl)⟩) hHeld ?_
  try walk_nrm
  refine wpAnyH_ready (rs := [25]) (by kernel_rfl) (by simp) ?_
  refine AllReadyH.cons rfl (fun K hK => ?_) AllReadyH.nil
  go_simp
  refine (CT _ bdr).mono ?_
  rintro z v25 ⟨p9, c9, rfl, r9, b9⟩
  go_wp2_with (fail)
  refine hK.out _ _ (trivial) (fun hHeld => ?_)
  clear hK K
  try walk_nrm
  refine wpAnyH_ready (rs := [29]) (by kernel_rfl) (by simp) ?_
  refine AllReadyH.cons rfl (fun K hK => ?_) AllReadyH.nil
  go_simp
  refine (CD p9 c9 _ (below_on bdr b9) r9.bytes r9.len).mono ?_
  rintro z v29 ⟨rfl, b10⟩
  go_wp2_with (fail)
  refine hK.out _ _ (trivial) (fun hHeld => ?_)
  clear hK K
  try walk_nrm
  refine wpAnyH_take (i := 30) rfl (by kernel_rfl) (by kernel_rfl) (by kernel_rfl) (fun _ _ _ h => h) (Or.inl ⟨by rfl, fun X hSw => by ((try dsimp only at hSw); go_simp; try with_reducible rfl)⟩) hHeld ?_
  try walk_nrm
  refine wpAnyH_take (i := 31) rfl (by kernel_rfl) (by kernel_rfl) (by kernel_rfl) (fun _ _ _ h => h) (Or.inl ⟨by rfl, fun X hSw => by ((try dsimp only at hSw); go_simp; try with_reducible rfl)⟩) hHeld ?_
  try walk_nrm
  refine wpAnyH_done (by kernel_rfl) ?_ _
  refine NoPanic.normal ?_
  have b11 := below_on (below_on bdr b9) b10
  go_wp2_with (fail)
  go_ret2
  refine ⟨_, _, rfl, b11.trans ((Below.refl _ _).alloc b11.size _)⟩
set_option maxHeartbeats 8000000 in
theorem specOpen_yes (kp np ap : Option Addr) (b0 o0 kc nc an ac m bc : Nat) (KS NS AS BS : List Int) (w : World) (hK : KS.length = 32) (hN : NS.length = 12) (hA : AS.length = an) (hB : BS.length = m + 16) (han : an ≤ 1500) (hm : m ≤ 1500) (hbc : m + 16 ≤ bc) (ik : BytesIn w kp 32 KS) (im : BytesIn w np 12 NS) (ia : BytesIn w ap an AS) (ib : BytesIn w (some ⟨b0, o0, none⟩) (m + 16) BS)
    (bk : ∀ x ∈ KS, 0 ≤ x ∧ x < 256) (bm : ∀ x ∈ NS, 0 ≤ x ∧ x < 256) (ba : ∀ x ∈ AS, 0 ≤ x ∧ x < 256) (bb : ∀ x ∈ BS, 0 ≤ x ∧ x < 256) (heq : BS.drop m = stL KS NS AS (BS.take m)) :
    Calls Tryd.prog 12 #[.slice kp 32 kc, .slice np 12 nc, .slice ap an ac, .slice (some ⟨b0, o0, none⟩) (m + 16) bc] w fun e w' => ∃ p' c', e = .returned (.tuple #[.slice p' m c', .bool true]) ∧ Own 5 w' w.heap.size w'.heap.size (.slice p' m c') m (strT KS 1 NS (BS.take m)) ∧ Below w.heap.size w w' := by
  have CIN : ∀ X, Calls Tryd.prog 34 #[.int .i64 (m : Int), .int .i64 0, .int .i64 1500] X fun e w' => e = .returned (.bool true) ∧ w' = X := fun X => by
    have := l1In_is (m : Int) 0 1500 X
    rw [decide_eq_true (show 0 ≤ (m : Int) ∧ (m : Int) ≤ 1500 by omega)] at this
    exact this
  have hle : ttN an m ≤ 4000 := by
    have := fillN_lt an
    have := fillN_lt m
    unfold ttN
    omega
  have h16 : tagN 32 (ttN an m) = 16 := if_pos ⟨rfl, hle⟩
  have hTl : (BS.take m).length = m := by rw [List.length_take, hB]; omega
  have hDl : (BS.drop m).length = 16 := by rw [List.length_drop, hB]; omega
  have iT : BytesIn w (some ⟨b0, o0, none⟩) m (BS.take m) := fun h0 => by
    obtain ⟨b, o, e, hc⟩ := ib (by omega)
    refine ⟨b, o, e, fun i hi => ?_⟩
    have := hc i (by omega)
    rwa [List.getD_eq_getElem?_getD, List.getElem?_take, if_pos hi, ← List.getD_eq_getElem?_getD]
  have iD : BytesIn w (some ⟨b0, o0 + m, none⟩) 16 (BS.drop m) := fun h0 => by
    obtain ⟨b, o, e, hc⟩ := ib (by omega)
    obtain ⟨rfl, rfl⟩ : b0 = b ∧ o0 = o := by simpa using e
    refine ⟨b0, o0 + m, rfl, fun i hi => ?_⟩
    have := hc (m + i) (by omega)
    rw [List.getD_eq_getElem?_getD, List.getElem?_drop, ← List.getD_eq_getElem?_getD, Nat.add_assoc]
    exact this
  have CT := fun (X : World) (hX : Below w.heap.size w X) => l7Tag_any kp np ap (some ⟨b0, o0, none⟩) kc nc an ac m bc KS NS AS (BS.take m) X hK hN hA hTl (by omega) (by omega) (in_below ik hX) (in_below im hX) (in_below ia hX) (in_below iT hX) bk bm ba (fun x hx => bb x (List.mem_of_mem_take hx))
  simp only [h16] at CT
  have CD := fun (p : Option Addr) (c : Nat) (X : World) (hX : Below w.heap.size w X) (hp : BytesIn X p 16 (stL KS NS AS (BS.take m))) (hl : (stL KS NS AS (BS.take m)).length = 16) => specSame_any p (some ⟨b0, o0 + m, none⟩) 16 16 c (bc - m) (stL KS NS AS (BS.take m)) (BS.drop m) X hl hDl hp (in_below iD hX)
  have s1 := cut_to b0 o0 (m + 16) bc m (by omega)
  have s2 := cut_from b0 o0 (m + 16) bc m (by omega) (by omega)
  rw [show m + 16 - m = 16 by omega] at s2
  have hm0 : ((m + 16 : Nat) : Int) - 16 = (m : Int) := by omega
  have hm1 : (m : Int) ≤ 1500 := by omega
  have han1 : (an : Int) ≤ 1500 := by omega
  have bdr : Below w.heap.size w w.drew := (Below.refl _ w).drew
  have DQ : ((strOfNums (stL KS NS AS (BS.take m))).toList == (strOfNums (BS.drop m)).toList) = true := by
    rw [same_dec (show ∀ x ∈ stL KS NS AS (BS.take m), 0 ≤ x ∧ x < 256 from tagL_byte _ _) (fun x hx => bb x (List.mem_of_mem_drop hx))]
    exact decide_eq_true heq.symm
  rw [DQ] at CD
  clear heq
  have hgood : GoodT KS.length NS.length (BS.take m).length 1 := ⟨hK, hN, by omega, by omega, by omega⟩
  have CS := fun (X : World) (hX : Below w.heap.size w X) => specStr_any kp np (some ⟨b0, o0, none⟩) 32 12 m kc nc bc 1 KS NS (BS.take m) X (by omega) hK hN hTl (in_below ik hX) (in_below im hX) (in_below iT hX) bk bm
  rw [good_ok hgood] at CS
  have hSl : (strT KS 1 NS (BS.take m)).length = m := by rw [strT_length]; exact hTl
  generalize strT KS 1 NS (BS.take m) = ST at CS hSl ⊢
  clear hgood
  generalize stL KS NS AS (BS.take m) = TT at CT CD
  generalize bc - m = cd at s2 CD
  generalize o0 + m = om at s2 CD
  clear DQ ik im ia ib bk bm ba bb iT iD hDl hTl h16 hle hK hN hA hB han hm hbc
  have HSl : Hid (ST.length = m) := hSl
  clear hSl
  go_enter Tryd.func12, Tryd.ntmps12
  go_wp2_with (fail)
  refine wp_region_noPanic ?_
  refine wp_region_held_drew (S := fun w' => True) (by kernel_rfl) (trivial) (fun hHeld => ?_)
  refine wpAnyH_take (i := 0) rfl (by kernel_rfl) (by kernel_rfl) (by kernel_rfl) (fun _ _ _ h => h) (Or.inl ⟨by rfl, fun X hSw => by ((try dsimp only at hSw); go_simp; try with_reducible rfl)⟩) hHeld ?_
  try walk_nrm
  refine wpAnyH_take (i := 1) rfl (by kernel_rfl) (by kernel_rfl) (by kernel_rfl) (fun _ _ _ h => h) (Or.inl ⟨by rfl, fun X hSw => by ((try dsimp only at hSw); go_simp; try with_reducible rfl)⟩) hHeld ?_
  try walk_nrm
  refine wpAnyH_take (i := 2) rfl (by kernel_rfl) (by kernel_rfl) (by kernel_rfl) (fun _ _ _ h => h) (Or.inl ⟨by rfl, fun X hSw => by ((try dsimp only at hSw); go_simp; try with_reducible rfl)⟩) hHeld ?_
  try walk_nrm
  refine wpAnyH_take (i := 3) rfl (by kernel_rfl) (by kernel_rfl) (by kernel_rfl) (fun _ _ _ h => h) (Or.inl ⟨by rfl, fun X hSw => by ((try dsimp only at hSw); go_simp; try with_reducible rfl)⟩) hHeld ?_
  try walk_nrm
  refine wpAnyH_take (i := 4) rfl (by kernel_rfl) (by kernel_rfl) (by kernel_rfl) (fun _ _ _ h => h) (Or.inl ⟨by rfl, fun X hSw => by ((try dsimp only at hSw); go_simp; try with_reducible rfl)⟩) hHeld ?_
  try walk_nrm
  refine wpAnyH_take (i := 5) rfl (by kernel_rfl) (by kernel_rfl) (by kernel_rfl) (fun _ _ _ h => h) (Or.inl ⟨by rfl, fun X hSw => by ((try dsimp only at hSw); go_simp; try with_reducible rfl)⟩) hHeld ?_
  try walk_nrm
  refine wpAnyH_take (i := 6) rfl (by kernel_rfl) (by kernel_rfl) (by kernel_rfl) (fun _ _ _ h => h) (Or.inl ⟨by rfl, fun X hSw => by ((try dsimp only at hSw); go_simp; try with_reducible rfl)⟩) hHeld ?_
  try walk_nrm
  refine wpAnyH_take (i := 7) rfl (by kernel_rfl) (by kernel_rfl) (by kernel_rfl) (fun _ _ _ h => h) (Or.inl ⟨by rfl, fun X hSw => by ((try dsimp only at hSw); go_simp; try with_reducible rfl)⟩) hHeld ?_
  try walk_nrm
  refine wpAnyH_take (i := 8) rfl (by kernel_rfl) (by kernel_rfl) (by kernel_rfl) (fun _ _ _ h => h) (Or.inl ⟨by rfl, fun X hSw => by ((try dsimp only at hSw); go_simp; try with_reducible rfl)⟩) hHeld ?_
  try walk_nrm
  refine wpAnyH_take (i := 9) rfl (by kernel_rfl) (by kernel_rfl) (by kernel_rfl) (fun _ _ _ h => h) (Or.inl ⟨by rfl, fun X hSw => by ((try dsimp only at hSw); go_simp; try with_reducible rfl)⟩) hHeld ?_
  try walk_nrm
  refine wpAnyH_take (i := 10) rfl (by kernel_rfl) (by kernel_rfl) (by kernel_rfl) (fun _ _ _ h => h) (Or.inl ⟨by rfl, fun X hSw => by ((try dsimp only at hSw); go_simp; try with_reducible rfl)⟩) hHeld ?_
  try walk_nrm
  refine wpAnyH_take (i := 11) (v := .bool false) rfl (by kernel_rfl) (by kernel_rfl) (by kernel_rfl) (fun _ _ _ h => h) (Or.inl ⟨by rfl, fun X hSw => by ((try dsimp only at hSw); go_simp <;> (try simp) <;> (try omega))⟩) hHeld ?_
  try walk_nrm
  refine wpAnyH_take (i := 12) rfl (by kernel_rfl) (by kernel_rfl) (by kernel_rfl) (fun _ _ _ h => h) (Or.inl ⟨by rfl, fun X hSw => by ((try dsimp only at hSw); go_simp; try with_reducible rfl)⟩) hHeld ?_
  try walk_nrm
  refine wpAnyH_take (i := 13) rfl (by kernel_rfl) (by kernel_rfl) (by kernel_rfl) (fun _ _ _ h => h) (Or.inl ⟨by rfl, fun X hSw => by ((try dsimp only at hSw); go_simp; try with_reducible rfl)⟩) hHeld ?_
  try walk_nrm
  refine wpAnyH_take (i := 14) rfl (by kernel_rfl) (by kernel_rfl) (by kernel_rfl) (fun _ _ _ h => h) (Or.inl ⟨by rfl, fun X hSw => by ((try dsimp only at hSw); go_simp; try with_reducible rfl)⟩) hHeld ?_
  try walk_nrm
  refine wpAnyH_ready (rs := [15]) (by kernel_rfl) (by simp) ?_
  refine AllReadyH.cons rfl (fun K hK => ?_) AllReadyH.nil
  go_simp
  refine (CIN _).mono ?_
  rintro z v15 ⟨rfl, rfl⟩
  go_wp2_with (fail)
  refine hK.out _ _ (trivial) (fun hHeld => ?_)
  clear hK K
  try walk_nrm
  refine wpAnyH_take (i := 16) rfl (by kernel_rfl) (by kernel_rfl) (by kernel_rfl) (fun _ _ _ h => h) (Or.inl ⟨by rfl, fun X hSw => by ((try dsimp only at hSw); go_simp; try with_reducible rfl)⟩) hHeld ?_
  try walk_nrm
  refine wpAnyH_take (i := 17) rfl (by kernel_rfl) (by kernel_rfl) (by kernel_rfl) (fun _ _ _ h => h) (Or.inl ⟨by rfl, fun X hSw => by ((try dsimp only at hSw); go_simp; try with_reducible rfl)⟩) hHeld ?_
  try walk_nrm
  refine wpAnyH_take (i := 18) rfl (by kernel_rfl) (by kernel_rfl) (by kernel_rfl) (fun _ _ _ h => h) (Or.inl ⟨by rfl, fun X hSw => by ((try dsimp only at hSw); go_simp; try with_reducible rfl)⟩) hHeld ?_
  try walk_nrm
  refine wpAnyH_take (i := 19) rfl (by kernel_rfl) (by kernel_rfl) (by kernel_rfl) (fun _ _ _ h => h) (Or.inl ⟨by rfl, fun X hSw => by ((try dsimp only at hSw); go_simp; try with_reducible rfl)⟩) hHeld ?_
  try walk_nrm
  refine wpAnyH_take (i := 20) rfl (by kernel_rfl) (by kernel_rfl) (by kernel_rfl) (fun _ _ _ h => h) (Or.inl ⟨by rfl, fun X hSw => by ((try dsimp only at hSw); go_simp; try with_reducible rfl)⟩) hHeld ?_
  try walk_nrm
  refine wpAnyH_take (i := 21) rfl (by kernel_rfl) (by kernel_rfl) (by kernel_rfl) (fun _ _ _ h => h) (Or.inl ⟨by rfl, fun X hSw => by ((try dsimp only at hSw); go_simp; try with_reducible rfl)⟩) hHeld ?_
  try walk_nrm
  refine wpAnyH_take (i := 22) rfl (by kernel_rfl) (by kernel_rfl) (by kernel_rfl) (fun _ _ _ h => h) (Or.inl ⟨by rfl, fun X hSw => by ((try dsimp only at hSw); go_simp; try with_reducible rfl)⟩) hHeld ?_
  try walk_nrm
  refine wpAnyH_take (i := 23) rfl (by kernel_rfl) (by kernel_rfl) (by kernel_rfl) (fun _ _ _ h => h) (Or.inl ⟨by rfl, fun X hSw => by ((try dsimp only at hSw); go_simp; try with_reducible rfl)⟩) hHeld ?_
  try walk_nrm
  refine wpAnyH_take (i := 24) rfl (by kernel_rfl) (by kernel_rfl) (by kernel_rfl) (fun _ _ _ h => h) (Or.inl ⟨by rfl, fun X hSw => by ((try dsimp only at hSw); go_simp; try with_reducible rfl)⟩) hHeld ?_
  try walk_nrm
  refine wpAnyH_take (i := 26) rfl (by kernel_rfl) (by kernel_rfl) (by kernel_rfl) (fun _ _ _ h => h) (Or.inl ⟨by rfl, fun X hSw => by ((try dsimp only at hSw); go_simp; try with_reducible rfl)⟩) hHeld ?_
  try walk_nrm
  refine wpAnyH_take (i := 27) rfl (by kernel_rfl) (by kernel_rfl) (by kernel_rfl) (fun _ _ _ h => h) (Or.inl ⟨by rfl, fun X hSw => by ((try dsimp only at hSw); go_simp; try with_reducible rfl)⟩) hHeld ?_
  try walk_nrm
  refine wpAnyH_take (i := 28) rfl (by kernel_rfl) (by kernel_rfl) (by kernel_rfl) (fun _ _ _ h => h) (Or.inl ⟨by rfl, fun X hSw => by ((try dsimp only at hSw); go_simp; try with_reducible rfl)⟩) hHeld ?_
  try walk_nrm
  refine wpAnyH_ready (rs := [25]) (by kernel_rfl) (by simp) ?_
  refine AllReadyH.cons rfl (fun K hK => ?_) AllReadyH.nil
  go_simp
  refine (CT _ bdr).mono ?_
  rintro z v25 ⟨p9, c9, rfl, r9, b9⟩
  go_wp2_with (fail)
  refine hK.out _ _ (trivial) (fun hHeld => ?_)
  clear hK K
  try walk_nrm
  refine wpAnyH_ready (rs := [29]) (by kernel_rfl) (by simp) ?_
  refine AllReadyH.cons rfl (fun K hK => ?_) AllReadyH.nil
  go_simp
  refine (CD p9 c9 _ (below_on bdr b9) r9.bytes r9.len).mono ?_
  rintro z v29 ⟨rfl, b10⟩
  go_wp2_with (fail)
  refine hK.out _ _ (trivial) (fun hHeld => ?_)
  clear hK K
  try walk_nrm
  refine wpAnyH_take (i := 30) rfl (by kernel_rfl) (by kernel_rfl) (by kernel_rfl) (fun _ _ _ h => h) (Or.inl ⟨by rfl, fun X hSw => by ((try dsimp only at hSw); go_simp; try with_reducible rfl)⟩) hHeld ?_
  try walk_nrm
  refine wpAnyH_take (i := 31) rfl (by kernel_rfl) (by kernel_rfl) (by kernel_rfl) (fun _ _ _ h => h) (Or.inl ⟨by rfl, fun X hSw => by ((try dsimp only at hSw); go_simp; try with_reducible rfl)⟩) hHeld ?_
  try walk_nrm
  refine wpAnyH_done (by kernel_rfl) ?_ _
  refine NoPanic.normal ?_
  have b11 := below_on (below_on bdr b9) b10
  go_wp2_with (fail)
  refine (CS _ b11).mono ?_
  rintro e w3 ⟨p3, L, c3, rfl, r3, b3⟩
  obtain rfl : L = m := by
    have := r3.len
    rw [HSl.out] at this
    omega
  have b12 := below_on b11 b3
  go_wp2_with (fail)
  go_ret2
  exact ⟨_, _, rfl, r3.low b11.size, b12⟩
theorem specOpen_b (kp np ap bp : Option Addr) (kn kc nn nc an ac bn bc : Nat) (KS NS AS BS : List Int) (w : World) (hK : KS.length = kn) (hN : NS.length = nn) (hA : AS.length = an) (hB : BS.length = bn) (hbc : bn ≤ bc) (ik : BytesIn w kp kn KS) (im : BytesIn w np nn NS) (ia : BytesIn w ap an AS) (ib : BytesIn w bp bn BS)
    (bk : ∀ x ∈ KS, 0 ≤ x ∧ x < 256) (bm : ∀ x ∈ NS, 0 ≤ x ∧ x < 256) (ba : ∀ x ∈ AS, 0 ≤ x ∧ x < 256) (bb : ∀ x ∈ BS, 0 ≤ x ∧ x < 256) (hb : bn ≤ 1048576) :
    Calls Tryd.prog 12 #[.slice kp kn kc, .slice np nn nc, .slice ap an ac, .slice bp bn bc] w fun ex w2 => ∃ p c, ex = .returned (.tuple #[.slice p (openN kn nn an bn KS NS AS BS) c, .bool (openB kn nn an bn KS NS AS BS)]) ∧ See 5 w2 w.heap.size w2.heap.size (.slice p (openN kn nn an bn KS NS AS BS) c) (openN kn nn an bn KS NS AS BS) (openX kn nn an bn KS NS AS BS) ∧ Below w.heap.size w w2 := by
  by_cases hok : OpenOk kn nn an bn KS NS AS BS
  · simp only [openN, openB, openX, if_pos hok, decide_eq_true hok]
    obtain ⟨⟨h1, h2, h3, h4, h5⟩, h6⟩ := hok
    obtain ⟨m, rfl⟩ : ∃ m, bn = m + 16 := ⟨bn - 16, by omega⟩
    subst h1 h2
    obtain ⟨b0, o0, rfl, _⟩ := ib (by omega)
    rw [show m + 16 - 16 = m by omega] at h6 ⊢
    exact (specOpen_yes kp np ap b0 o0 kc nc an ac m bc KS NS AS BS w hK hN hA hB h3 (by omega) hbc ik im ia ib bk bm ba bb h6).mono fun ex w2 ⟨p, c, a1, a2, a3⟩ => ⟨p, c, a1, a2.see, a3⟩
  · simp only [openN, openB, openX, if_neg hok, decide_eq_false hok]
    have key : Calls Tryd.prog 12 #[.slice kp kn kc, .slice np nn nc, .slice ap an ac, .slice bp bn bc] w fun e w' => ∃ p' c', e = .returned (.tuple #[.slice p' 0 c', .bool false]) ∧ Below w.heap.size w w' := by
      by_cases h1 : kn = 32
      · by_cases h2 : nn = 12
        · by_cases h3 : an ≤ 1500
          · by_cases h4 : 0 ≤ (bn : Int) - 16 ∧ (bn : Int) - 16 ≤ 1500
            · obtain ⟨m, rfl⟩ : ∃ m, bn = m + 16 := ⟨bn - 16, by omega⟩
              subst h1 h2
              obtain ⟨b0, o0, rfl, _⟩ := ib (by omega)
              refine specOpen_no5 kp np ap b0 o0 kc nc an ac m bc KS NS AS BS w hK hN hA hB h3 (by omega) hbc ik im ia ib bk bm ba bb fun h => hok ⟨⟨rfl, rfl, h3, by omega, by omega⟩, ?_⟩
              rwa [show m + 16 - 16 = m by omega]
            · exact specOpen_no4 kp np ap bp kn kc nn nc an ac bn bc w (by omega) (by omega) (by omega) h4 (by omega)
          · exact specOpen_no3 kp np ap bp kn kc nn nc an ac bn bc w (by omega) (by omega) (by omega) (by omega)
        · exact specOpen_no2 kp np ap bp kn kc nn nc an ac bn bc w (by omega) (by omega) (by omega)
      · exact specOpen_no1 kp np ap bp kn kc nn nc an ac bn bc w (by omega) (by omega)
    exact key.mono fun ex w2 ⟨p, c, a1, a3⟩ => ⟨p, c, a1, .inl ⟨rfl, rfl⟩, a3⟩
def Cur (w : World) (a : Nat) (p : Option Addr) (n c : Nat) (xs : List Int) : Prop :=
  ∃ i h : Int, w.heap[a]? = some (.cells #[.slice p n c, .int .i64 i, .int .i64 h] 49 (0, 0)) ∧ 0 ≤ i ∧ i ≤ n ∧ n ≤ 1048576 ∧ xs.length = n ∧ BytesIn w p n xs ∧ ∀ x ∈ xs, 0 ≤ x ∧ x < 256
theorem Cur.not_in {w : World} {a : Nat} {p : Option Addr} {n c : Nat} {b o : Nat} {k : Nat} {u : Int} {i h : Int} (ha : w.heap[a]? = some (.cells #[.slice p n c, .int .i64 i, .int .i64 h] 49 (0, 0))) (hc : w.cell? ⟨b, o + k, none⟩ = some (.int .u8 u)) : b ≠ a := by
  intro e
  subst e
  rw [cell_of_row w b (o + k) _ _ _ ha] at hc
  match o + k, hc with
  | 0, hc => simp at hc
  | 1, hc => simp at hc
  | 2, hc => simp at hc
  | j + 3, hc => simp at hc
theorem in_grown {w w' : World} {p : Option Addr} {n : Nat} {xs : List Int} {a : Nat} (h : BytesIn w p n xs) (hg : w.grownBy w' (some a)) (hne : ∀ b o, p = some ⟨b, o, none⟩ → 0 < n → b ≠ a) : BytesIn w' p n xs := by
  intro hn
  obtain ⟨b, o, rfl, hc⟩ := h hn
  refine ⟨b, o, rfl, fun i hi => ?_⟩
  exact hg.cell (hc i hi) (by have := hne b o rfl hn; simp; exact this)
theorem and255 (y : Int) : 0 ≤ bits .and .i64 y 255 ∧ bits .and .i64 y 255 ≤ 255 := by
  have e : (BitVec.ofInt 64 y &&& BitVec.ofInt 64 255).toNat ≤ 255 := by
    rw [BitVec.toNat_and]
    exact Nat.le_trans Nat.and_le_right (by decide)
  have : bits .and .i64 y 255 = IntKind.i64.wrap ((BitVec.ofInt 64 y &&& BitVec.ofInt 64 255).toNat : Int) := rfl
  rw [this, IntKind.wrap_i64]
  omega
theorem cells_cur {w : World} {a : Nat} {v0 v1 v2 : Value} (ha : w.heap[a]? = some (.cells #[v0, v1, v2] 49 (0, 0))) :
    w.cell? ⟨a, 0, none⟩ = some v0 ∧ w.cell? ⟨a, 1, none⟩ = some v1 ∧ w.cell? ⟨a, 2, none⟩ = some v2 ∧ w.frozen? ⟨a, 1, none⟩ = false ∧ w.frozen? ⟨a, 2, none⟩ = false := by
  refine ⟨?_, ?_, ?_, frozen_of_row _ _ _ _ _ ha, frozen_of_row _ _ _ _ _ ha⟩ <;> rw [cell_of_row _ _ _ _ _ _ ha] <;> rfl
theorem set2_cur {w : World} {a : Nat} {v0 v1 v2 : Value} (ha : w.heap[a]? = some (.cells #[v0, v1, v2] 49 (0, 0))) (u : Value) :
    (w.setCell ⟨a, 2, none⟩ u).heap[a]? = some (.cells #[v0, v1, u] 49 (0, 0)) ∧ w.grownBy (w.setCell ⟨a, 2, none⟩ u) (some a) :=
  ⟨heap_setCell_same w a 2 _ _ u ha, ⟨rfl, rfl, rfl, by simp, fun k _ hk => heap_setCell_other w ⟨a, 2, none⟩ k u (fun e => hk (by simp [e]))⟩⟩
theorem set1_cur {w : World} {a : Nat} {v0 v1 v2 : Value} (ha : w.heap[a]? = some (.cells #[v0, v1, v2] 49 (0, 0))) (u : Value) :
    (w.setCell ⟨a, 1, none⟩ u).heap[a]? = some (.cells #[v0, u, v2] 49 (0, 0)) ∧ w.grownBy (w.setCell ⟨a, 1, none⟩ u) (some a) :=
  ⟨heap_setCell_same w a 1 _ _ u ha, ⟨rfl, rfl, rfl, by simp, fun k _ hk => heap_setCell_other w ⟨a, 1, none⟩ k u (fun e => hk (by simp [e]))⟩⟩
set_option maxHeartbeats 2000000 in
theorem l1Byte_any (a : Nat) (p : Option Addr) (n c : Nat) (xs : List Int) (w : World) (hcur : Cur w a p n c xs) :
    Calls Tryd.prog 53 #[.pointer (some ⟨a, 0, none⟩)] w fun e w' => ∃ x : Int, e = .returned (.int .i64 x) ∧ 0 ≤ x ∧ x ≤ 255 ∧ Cur w' a p n c xs ∧ w.grownBy w' (some a) := by
  obtain ⟨i, h, ha, hi0, hin, hn, hx, hb, hr⟩ := hcur
  obtain ⟨c0, c1, c2, f1, f2⟩ := cells_cur ha
  go_enter Tryd.func53, Tryd.ntmps53
  go_wp2
  generalize wrap64 (wrap64 (h * 6364136223846793005) + 1442695040888963407) = H
  have s2 := set2_cur ha (.int .i64 H)
  generalize w.setCell ⟨a, 2, none⟩ (.int .i64 H) = W at s2 ⊢
  obtain ⟨ha1, g1⟩ := s2
  have hb1 : BytesIn W p n xs := in_grown hb g1 fun b o e hn => by
    obtain ⟨b', o', e', hc⟩ := hb hn
    rw [e] at e'
    obtain ⟨rfl, rfl⟩ : b = b' ∧ o = o' := by simpa using e'
    exact Cur.not_in ha (hc 0 hn)
  clear c0 c1 c2 f1 f2 hb ha
  obtain ⟨c0, c1, c2, f1, f2⟩ := cells_cur ha1
  go_quiet (fail)
  generalize hX : bits BinOp.and IntKind.i64 (bits BinOp.xor IntKind.i64 (H / 8589934592) (H / 35184372088832)) 255 = X
  have hX1 := and255 (bits BinOp.xor IntKind.i64 (H / 8589934592) (H / 35184372088832))
  rw [hX] at hX1
  clear hX
  obtain ⟨x0, x1⟩ := hX1
  by_cases hlt : i < (n : Int)
  · obtain ⟨k, hk⟩ : ∃ k : Nat, i = (k : Int) := ⟨i.toNat, by omega⟩
    subst hk
    obtain ⟨b, o, rfl, hc⟩ := hb1 (by omega)
    have hck := hc k (by omega)
    obtain ⟨u, hu⟩ : ∃ u, u = xs.getD k 0 := ⟨_, rfl⟩
    rw [← hu] at hck
    have hu0 : 0 ≤ u ∧ u < 256 := by
      rw [hu]; apply hr
      simp [List.getElem?_eq_getElem (show k < xs.length by omega)]
    obtain ⟨u0, u1⟩ := hu0
    have hy := and255 (X + u)
    have s1 := set1_cur ha1 (.int .i64 ((k : Int) + 1))
    have hin2 : BytesIn W (some ⟨b, o, none⟩) n xs := hb1
    have hnot := Cur.not_in ha1 hck
    clear hc hu hb1
    go_wp2
    go_quiet (fail)
    go_wp2
    go_quiet (fail)
    go_wp2
    go_ret
    refine ⟨_, rfl, hy.1, hy.2, ⟨(k : Int) + 1, H, s1.1, by omega, by omega, hn, hx, ?_, hr⟩, ?_⟩
    · exact in_grown (w' := W.setCell ⟨a, 1, none⟩ (.int .i64 ((k : Int) + 1))) hin2 s1.2 fun b' o' e _ => by
        obtain ⟨rfl, rfl⟩ : b = b' ∧ o = o' := by simpa using e
        exact hnot
    · exact grown_trans g1 ⟨s1.2.os, s1.2.tape, s1.2.output, s1.2.size, s1.2.block⟩
  · go_wp2
    go_quiet (fail)
    go_wp2
    go_ret
    exact ⟨_, rfl, x0, x1, ⟨i, H, ha1, hi0, hin, hn, hx, hb1, hr⟩, ⟨g1.os, g1.tape, g1.output, g1.size, g1.block⟩⟩
set_option maxHeartbeats 2000000 in
theorem l1Below_any (a : Nat) (p : Option Addr) (n c : Nat) (xs : List Int) (m : Int) (w : World) (hm : 1 ≤ m) (hm2 : m ≤ 256) (hcur : Cur w a p n c xs) :
    Calls Tryd.prog 31 #[.pointer (some ⟨a, 0, none⟩), .int .i64 m] w fun e w' => ∃ x : Int, e = .returned (.int .i64 x) ∧ 0 ≤ x ∧ x < m ∧ Cur w' a p n c xs ∧ w.grownBy w' (some a) := by
  have c1 : ¬ m ≤ 0 := by omega
  go_enter Tryd.func31, Tryd.ntmps31
  go_wp2_with (fail)
  refine (l1Byte_any a p n c xs _ hcur).mono ?_
  rintro e w1 ⟨x, rfl, hx0, hx1, hc1, g1⟩
  have hz : (m == 0) = false := by simp; omega
  go_wp2_with (fail)
  go_ret
  exact ⟨_, rfl, Int.emod_nonneg _ (by omega), Int.emod_lt_of_pos _ (by omega), hc1, g1⟩
set_option maxHeartbeats 2000000 in
theorem l1New_any (p : Option Addr) (n c : Nat) (xs : List Int) (w : World) (hn : n ≤ 1048576) (hx : xs.length = n) (hb : BytesIn w p n xs) (hr : ∀ x ∈ xs, 0 ≤ x ∧ x < 256) :
    Calls Tryd.prog 23 #[.slice p n c] w fun e w' => ∃ a : Nat, e = .returned (.pointer (some ⟨a, 0, none⟩)) ∧ w.heap.size ≤ a ∧ a < w'.heap.size ∧ Cur w' a p n c xs ∧ Below w.heap.size w w' := by
  go_enter Tryd.func23, Tryd.ntmps23
  go_wp2
  go_loop [3, 4] (fun q i => ∃ k : Nat, k ≤ n ∧ i = .int .i64 k ∧ q = .int .i64 (intOf q)) (fun _ i => n - (intOf i).toNat)
  case atStart => exact ⟨0, Nat.zero_le _, rfl, rfl⟩
  case round =>
    obtain ⟨k, hk, rfl, hq⟩ := hrel
    obtain ⟨h, rfl⟩ : ∃ h, u3 = .int .i64 h := ⟨_, hq⟩
    clear hq
    by_cases hlt : k < n
    · by_cases h4 : k < 4000
      · obtain ⟨b, o, rfl, hc⟩ := hb (by omega)
        have hck := hc k hlt
        obtain ⟨u, hu⟩ : ∃ u, u = xs.getD k 0 := ⟨_, rfl⟩
        rw [← hu] at hck
        clear hc hu
        go_wp2
        go_round
        case rel => exact ⟨k + 1, by omega, by go_num, by unfold intOf; rfl⟩
        case measure => simp [intOf]; omega
      · have h4' : ¬ (k : Int) < 4000 := by omega
        go_wp2
        go_ret
        exact ⟨w.heap.size, rfl, Nat.le_refl _, by simp, ⟨0, h, heap_alloc_new w _, Int.le_refl _, by omega, hn, hx, in_below hb ((Below.refl _ _).alloc (Nat.le_refl _) _), hr⟩, (Below.refl _ _).alloc (Nat.le_refl _) _⟩
    · go_wp2
      go_ret
      exact ⟨w.heap.size, rfl, Nat.le_refl _, by simp, ⟨0, h, heap_alloc_new w _, Int.le_refl _, by omega, hn, hx, in_below hb ((Below.refl _ _).alloc (Nat.le_refl _) _), hr⟩, (Below.refl _ _).alloc (Nat.le_refl _) _⟩
theorem Cur.lt {w : World} {a : Nat} {p : Option Addr} {n c : Nat} {xs : List Int} (h : Cur w a p n c xs) : a < w.heap.size := by
  obtain ⟨i, k, ha, _⟩ := h
  exact (Array.getElem?_eq_some_iff.1 ha).1
theorem Cur.code_lt {w : World} {a : Nat} {p : Option Addr} {n c : Nat} {xs : List Int} (h : Cur w a p n c xs) : ∀ b o, p = some ⟨b, o, none⟩ → 0 < n → b < w.heap.size := by
  obtain ⟨i, k, ha, _, _, _, _, hb, _⟩ := h
  intro b o e hn
  obtain ⟨b', o', e', hc⟩ := hb hn
  rw [e] at e'
  obtain ⟨rfl, rfl⟩ : b = b' ∧ o = o' := by simpa using e'
  exact World.block_lt_of_cell? w ⟨b, o + 0, none⟩ (hc 0 hn)
theorem Cur.below {w1 w2 : World} {B a : Nat} {p : Option Addr} {n c : Nat} {xs : List Int} (h : Cur w1 a p n c xs) (hb : Below B w1 w2) (ha : a < B) (hp : ∀ b o, p = some ⟨b, o, none⟩ → 0 < n → b < B) : Cur w2 a p n c xs := by
  obtain ⟨i, k, h1, h2, h3, h4, h5, h6, h7⟩ := h
  refine ⟨i, k, by rw [hb.block a ha]; exact h1, h2, h3, h4, h5, ?_, h7⟩
  intro hn
  obtain ⟨b, o, rfl, hc⟩ := h6 hn
  refine ⟨b, o, rfl, fun j hj => ?_⟩
  rw [hb.cell (p := ⟨b, o + j, none⟩) (hp b o rfl hn)]
  exact hc j hj
theorem owns_cur {w w' : World} {a base e size : Nat} {v : Value} {n : Nat} {xs : List Value} (h : w.ownsRow base e size v n xs) (hg : w.grownBy w' (some a)) (ha : a < base) : w'.ownsRow base e size v n xs := by
  refine h.kept hg ?_
  rcases hv : v.ownBlock with _ | k
  · exact .inl rfl
  · right
    have := (h.lt k hv).1
    simp
    omega
theorem grown_below {w w2 w3 : World} {row : Option Nat} (h : w.grownBy w2 row) (hb : Below w.heap.size w2 w3) : w.grownBy w3 row :=
  ⟨hb.os.trans h.os, hb.tape.trans h.tape, hb.output.trans h.output, Nat.le_trans h.size hb.size, fun k hk hr => (hb.block k hk).trans (h.block k hk hr)⟩
set_option maxHeartbeats 2000000 in
theorem l1DrawBytes_any (a : Nat) (p : Option Addr) (n c : Nat) (xs : List Int) (m : Int) (w : World) (hm : 0 ≤ m) (hm2 : m ≤ 255) (hcur : Cur w a p n c xs) :
    Calls Tryd.prog 36 #[.pointer (some ⟨a, 0, none⟩), .int .i64 m] w fun e w' => ∃ g k c' ys, e = .returned (.slice (some ⟨g, 0, none⟩) k c') ∧ (k : Int) ≤ m ∧ Own 5 w' w.heap.size w'.heap.size (.slice (some ⟨g, 0, none⟩) k c') k ys ∧ (∀ y ∈ ys, 0 ≤ y ∧ y < 256) ∧ Cur w' a p n c xs ∧ w.grownBy w' (some a) := by
  obtain ⟨i0, hi, hz0, hz1, hz2⟩ := info_parts infoByte
  have ha := hcur.lt
  have hcl := hcur.code_lt
  go_enter Tryd.func36, Tryd.ntmps36
  go_wp2_with (fail)
  have hb0 : Below w.heap.size w (w.alloc (.cells #[] 5)) := (Below.refl _ _).alloc (Nat.le_refl _) _
  refine (l1Below_any a p n c xs (m + 1) _ (by omega) (by omega) (hcur.below hb0 ha hcl)).mono ?_
  rintro e w1 ⟨x, rfl, hx0, hx1, hc1, g1⟩
  obtain ⟨K, hK⟩ : ∃ K : Nat, x = (K : Int) := ⟨x.toNat, by omega⟩
  subst hK
  have o1 : w1.ownsRow w.heap.size 5 1 (.slice (some ⟨w.heap.size, 0, none⟩) 0 0) 0 (([] : List Int).map (Value.int .u8)) := owns_cur (World.ownsRow_made w #[] 0 (Nat.le_refl _) (by unfold maxLen; omega) rfl) g1 ha
  have gg : w.grownBy w1 (some a) := grown_trans (World.grownBy_alloc w _ _) g1
  clear hb0 g1
  go_wp2
  go_loopw [5, 7] (fun v i wr => ∃ (k : Nat) (ys : List Int), k ≤ K ∧ i = .int .i64 k ∧ Hid (∃ g cap, v = .slice (some ⟨g, 0, none⟩) k cap) ∧ wr.ownsRow w.heap.size 5 1 v k (ys.map (Value.int .u8)) ∧ Hid (∀ y ∈ ys, 0 ≤ y ∧ y < 256) ∧ Cur wr a p n c xs ∧ w.grownBy wr (some a))
    (fun _ i _ => K - (intOf i).toNat)
  case atStart => exact ⟨0, [], Nat.zero_le _, rfl, ⟨_, _, rfl⟩, o1, (fun y hy => by cases hy), hc1, gg⟩
  case round =>
    clear o1 gg hc1
    obtain ⟨k, ys, hk, rfl, hform, hown, hys, hc, hgr⟩ := hrel
    have hsz := hgr.size
    by_cases hlt : k < K
    · go_wp2_with (fail)
      refine (l1Below_any a p n c xs 256 _ (by omega) (by omega) hc).mono ?_
      rintro e w2 ⟨y, rfl, hy0, hy1, hc2, g2⟩
      have o2 := owns_cur hown g2 ha
      have gg := grown_trans hgr g2
      have hsz2 := gg.size
      have hys2 : Hid (∀ z ∈ ys ++ [y], 0 ≤ z ∧ z < 256) := by
        intro z hz
        rcases List.mem_append.1 hz with h | h
        · exact hys.out z h
        · simp at h; subst h; exact ⟨hy0, hy1⟩
      clear hown hc hgr hys hform
      go_wp2_with (at_builtin; refine list_pushK hi hz0 hz1 hz2 (.tmp 18) (.tmp 22) 22 Tryd.underlying22 _ o2 (by omega) hsz2 (by rfl) (by rfl) (by rfl) (by rfl) ?_; intro g cap w3 ho3 hb3 hkk)
      go_roundw
      case rel => exact ⟨k + 1, ys ++ [y], by omega, by go_num, ⟨_, _, rfl⟩, ho3, hys2, hc2.below hb3 ha hcl, grown_below gg hb3⟩
      case measure => simp [intOf]; omega
    · obtain ⟨g, c', hv⟩ := hform.out
      clear hform
      subst hv
      go_wp2
      go_ret
      exact ⟨g, k, c', ys, rfl, by omega, .of hown, hys.out, hc, hgr⟩
theorem below_cur {w w1 w2 : World} {a : Nat} (h : Below w.heap.size w w1) (hg : w1.grownBy w2 (some a)) (ha : w.heap.size ≤ a) : Below w.heap.size w w2 :=
  h.grown hg h.size fun k hk => by simp at hk; omega
theorem Own.mono {e : Nat} {w : World} {lo lo' hi hi' : Nat} {v : Value} {n : Nat} {xs : List Int} (h : Own e w lo hi v n xs) (hl : lo' ≤ lo) (hh : hi ≤ hi') : Own e w lo' hi' v n xs :=
  ⟨owns_mono h.1 hl, fun k hk => Nat.lt_of_lt_of_le (h.2 k hk) hh⟩
theorem Own.cur {e : Nat} {w w' : World} {a lo hi : Nat} {v : Value} {n : Nat} {xs : List Int} (h : Own e w lo hi v n xs) (hg : w.grownBy w' (some a)) (ha : a < lo) : Own e w' lo hi v n xs := ⟨owns_cur h.1 hg ha, h.2⟩
theorem l1Once_any (a : Nat) (p : Option Addr) (n c : Nat) (xs : List Int) (m : Int) (w : World) (hm : 1 ≤ m) (hm2 : m ≤ 256) (hcur : Cur w a p n c xs) :
    Calls Tryd.prog 43 #[.pointer (some ⟨a, 0, none⟩), .int .i64 m] w fun e w' => ∃ b : Bool, e = .returned (.bool b) ∧ Cur w' a p n c xs ∧ w.grownBy w' (some a) := by
  go_enter Tryd.func43, Tryd.ntmps43
  go_wp2_with (fail)
  refine (l1Below_any a p n c xs m _ hm hm2 hcur).mono ?_
  rintro e w1 ⟨x, rfl, hx0, hx1, hc1, g1⟩
  go_wp2_with (fail)
  go_ret
  exact ⟨_, rfl, hc1, g1⟩
set_option maxHeartbeats 2000000 in
theorem l1DrawJust_is (a : Nat) (p : Option Addr) (n c : Nat) (xs : List Int) (K : Nat) (w : World) (hK : K ≤ 100000) (hcur : Cur w a p n c xs) :
    Calls Tryd.prog 54 #[.pointer (some ⟨a, 0, none⟩), .int .i64 K] w fun e w' => ∃ g k c' ys, e = .returned (.slice (some ⟨g, 0, none⟩) k c') ∧ k = K ∧ Own 5 w' w.heap.size w'.heap.size (.slice (some ⟨g, 0, none⟩) k c') k ys ∧ (∀ y ∈ ys, 0 ≤ y ∧ y < 256) ∧ Cur w' a p n c xs ∧ w.grownBy w' (some a) := by
  obtain ⟨i0, hi, hz0, hz1, hz2⟩ := info_parts infoByte
  have ha := hcur.lt
  have hcl := hcur.code_lt
  go_enter Tryd.func54, Tryd.ntmps54
  go_wp2_with (fail)
  have hb0 : Below w.heap.size w (w.alloc (.cells #[] 5)) := (Below.refl _ _).alloc (Nat.le_refl _) _
  have o1 : (w.alloc (.cells #[] 5)).ownsRow w.heap.size 5 1 (.slice (some ⟨w.heap.size, 0, none⟩) 0 0) 0 (([] : List Int).map (Value.int .u8)) := World.ownsRow_made w #[] 0 (Nat.le_refl _) (by unfold maxLen; omega) rfl
  have hc1 := hcur.below hb0 ha hcl
  have gg : w.grownBy (w.alloc (.cells #[] 5)) (some a) := World.grownBy_alloc w _ _
  go_loopw [5, 6] (fun v i wr => ∃ (k : Nat) (ys : List Int), k ≤ K ∧ i = .int .i64 k ∧ Hid (∃ g cap, v = .slice (some ⟨g, 0, none⟩) k cap) ∧ wr.ownsRow w.heap.size 5 1 v k (ys.map (Value.int .u8)) ∧ Hid (∀ y ∈ ys, 0 ≤ y ∧ y < 256) ∧ Cur wr a p n c xs ∧ w.grownBy wr (some a))
    (fun _ i _ => K - (intOf i).toNat)
  case atStart => exact ⟨0, [], Nat.zero_le _, rfl, ⟨_, _, rfl⟩, o1, (fun y hy => by cases hy), hc1, gg⟩
  case round =>
    clear o1 gg hc1 hb0
    obtain ⟨k, ys, hk, rfl, hform, hown, hys, hc, hgr⟩ := hrel
    have hsz := hgr.size
    by_cases hlt : k < K
    · go_wp2_with (fail)
      refine (l1Below_any a p n c xs 256 _ (by omega) (by omega) hc).mono ?_
      rintro e w2 ⟨y, rfl, hy0, hy1, hc2, g2⟩
      have o2 := owns_cur hown g2 ha
      have gg := grown_trans hgr g2
      have hsz2 := gg.size
      have hys2 : Hid (∀ z ∈ ys ++ [y], 0 ≤ z ∧ z < 256) := by
        intro z hz
        rcases List.mem_append.1 hz with h | h
        · exact hys.out z h
        · simp at h; subst h; exact ⟨hy0, hy1⟩
      clear hown hc hgr hys hform
      go_wp2_with (at_builtin; refine list_pushK hi hz0 hz1 hz2 (.tmp 13) (.tmp 17) 22 Tryd.underlying22 _ o2 (by omega) hsz2 (by rfl) (by rfl) (by rfl) (by rfl) ?_; intro g cap w3 ho3 hb3 hkk)
      go_roundw
      case rel => exact ⟨k + 1, ys ++ [y], by omega, by go_num, ⟨_, _, rfl⟩, ho3, hys2, hc2.below hb3 ha hcl, grown_below gg hb3⟩
      case measure => simp [intOf]; omega
    · obtain ⟨g, c', hv⟩ := hform.out
      clear hform
      subst hv
      go_wp2
      go_ret
      exact ⟨g, k, c', ys, rfl, by omega, .of hown, hys.out, hc, hgr⟩
theorem l1DrawJust_any (a : Nat) (p : Option Addr) (n c : Nat) (xs : List Int) (K : Nat) (w : World) (hK : K ≤ 1000) (hcur : Cur w a p n c xs) :
    Calls Tryd.prog 54 #[.pointer (some ⟨a, 0, none⟩), .int .i64 K] w fun e w' => ∃ g k c' ys, e = .returned (.slice (some ⟨g, 0, none⟩) k c') ∧ k ≤ 1000 ∧ Own 5 w' w.heap.size w'.heap.size (.slice (some ⟨g, 0, none⟩) k c') k ys ∧ (∀ y ∈ ys, 0 ≤ y ∧ y < 256) ∧ Cur w' a p n c xs ∧ w.grownBy w' (some a) :=
  (l1DrawJust_is a p n c xs K w (by omega) hcur).mono fun _ _ ⟨g, k, c', ys, h1, h2, h3⟩ => ⟨g, k, c', ys, h1, by omega, h3⟩
theorem l1Max_zero (K : Nat) (w : World) : Calls Tryd.prog 55 #[.int .i64 (K : Int), .int .i64 0] w fun e w' => e = .returned (.int .i64 (K : Int)) ∧ w' = w := by
  by_cases h : (0 : Int) < (K : Int)
  · go_enter Tryd.func55, Tryd.ntmps55
    go_wp2
    go_ret
    exact ⟨rfl, rfl⟩
  · obtain rfl : K = 0 := by omega
    go_enter Tryd.func55, Tryd.ntmps55
    go_wp2
    go_ret
    exact ⟨rfl, rfl⟩
set_option maxHeartbeats 2000000 in
theorem l1DrawNear_any (a : Nat) (p : Option Addr) (n c : Nat) (xs : List Int) (K : Nat) (w : World) (hK1 : 1 ≤ K) (hK2 : K ≤ 500) (hcur : Cur w a p n c xs) :
    Calls Tryd.prog 42 #[.pointer (some ⟨a, 0, none⟩), .int .i64 (K : Int)] w fun e w' => ∃ g k c' ys, e = .returned (.slice (some ⟨g, 0, none⟩) k c') ∧ k ≤ 1000 ∧ Own 5 w' w.heap.size w'.heap.size (.slice (some ⟨g, 0, none⟩) k c') k ys ∧ (∀ y ∈ ys, 0 ≤ y ∧ y < 256) ∧ Cur w' a p n c xs ∧ w.grownBy w' (some a) := by
  obtain ⟨U, hU⟩ : ∃ U : Nat, U = K + 1 := ⟨_, rfl⟩
  obtain ⟨D, hD⟩ : ∃ D : Nat, D = K - 1 := ⟨_, rfl⟩
  have eU : (K : Int) + 1 = (U : Int) := by omega
  have eD : (K : Int) - 1 = (D : Int) := by omega
  have CU := fun w h => l1DrawJust_any a p n c xs U w (by omega) h
  have CD := fun w h => l1DrawJust_any a p n c xs D w (by omega) h
  have CK := fun w h => l1DrawJust_any a p n c xs K w (by omega) h
  clear hU hD
  go_enter Tryd.func42, Tryd.ntmps42
  go_wp2_with (fail)
  refine (l1Below_any a p n c xs 16 _ (by omega) (by omega) hcur).mono ?_
  rintro e w1 ⟨x, rfl, hx0, hx1, hc1, g1⟩
  by_cases h0 : x = 0
  · subst h0
    go_wp2_with (fail)
    refine (CU _ hc1).mono ?_
    rintro e w2 ⟨g, k, c', ys, rfl, hk, o2, hys, hc2, g2⟩
    go_wp2_with (fail)
    go_ret
    exact ⟨g, k, c', ys, rfl, hk, o2.mono g1.size (Nat.le_refl _), hys, hc2, grown_trans g1 g2⟩
  · by_cases h1 : x = 1
    · subst h1
      go_wp2_with (fail)
      refine (l1Max_zero D _).mono ?_
      rintro e w1 ⟨rfl, rfl⟩
      go_wp2_with (fail)
      refine (CD _ hc1).mono ?_
      rintro e w2 ⟨g, k, c', ys, rfl, hk, o2, hys, hc2, g2⟩
      go_wp2_with (fail)
      go_ret
      exact ⟨g, k, c', ys, rfl, hk, o2.mono g1.size (Nat.le_refl _), hys, hc2, grown_trans g1 g2⟩
    · by_cases h2 : x = 2
      · subst h2
        go_wp2
        go_ret
        exact ⟨_, 0, _, [], rfl, by omega, .of (World.ownsRow_made w1 #[] 0 g1.size (by unfold maxLen; omega) rfl), (fun y hy => by cases hy), hc1.below ((Below.refl w1.heap.size w1).alloc (Nat.le_refl _) _) hc1.lt hc1.code_lt, grown_trans g1 (World.grownBy_alloc w1 _ _)⟩
      · have d0 : (x == 0) = false := by simpa using h0
        have d1 : (x == 1) = false := by simpa using h1
        have d2 : (x == 2) = false := by simpa using h2
        go_wp2_with (fail)
        refine (CK _ hc1).mono ?_
        rintro e w2 ⟨g, k, c', ys, rfl, hk, o2, hys, hc2, g2⟩
        go_wp2_with (fail)
        go_ret
        exact ⟨g, k, c', ys, rfl, hk, o2.mono g1.size (Nat.le_refl _), hys, hc2, grown_trans g1 g2⟩
def fulls (k : Nat) : List Int := List.replicate k 255 ++ List.replicate (32 - k) 0
end Go.Proofs.YthjapmdikbmmkaaDoor
