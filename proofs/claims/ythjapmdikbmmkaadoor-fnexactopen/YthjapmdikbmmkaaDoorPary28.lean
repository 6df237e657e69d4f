/-
  What the specification's Open answers, alone (printed by tools/specopen.py).
-/
import Derived.Test.YthjapmdikbmmkaaDoorPary27
namespace Go.Proofs.YthjapmdikbmmkaaDoor
open Go.RowKit
set_option maxRecDepth 100000

set_option maxHeartbeats 4000000 in
theorem specOpen_no1 (kp np ap bp : Option Addr) (kn kc nn nc an ac bn bc : Nat) (w : World) (h1 : ¬ (kn : Int) = 32) (hb : (bn : Int) ≤ 1048576) :
    Calls Tryd.prog 12 #[.slice kp kn kc, .slice np nn nc, .slice ap an ac, .slice bp bn bc] w fun e w' => ∃ p' c', e = .returned (.tuple #[.slice p' 0 c', .bool false]) ∧ Below w.heap.size w w' := by
  have mb : Below w.drew.heap.size w.drew (w.drew.alloc (.cells #[] 5)) := (Below.refl _ w.drew).alloc (Nat.le_refl _) _
  have mb' : Below w.heap.size w (w.drew.alloc (.cells #[] 5)) := (Below.refl _ w).drew.trans mb
  have z1 : ((kn : Int) != 32) = true := by simp; omega
  go_enter Tryd.func12, Tryd.ntmps12
  go_wp2_with (fail)
  go_region
  go_wp2_with (fail)
  go_ret2
  first | exact mb' | exact ⟨⟨_, _, rfl⟩, mb'⟩ | exact ⟨_, _, rfl, mb'⟩

set_option maxHeartbeats 4000000 in
theorem specOpen_no2 (kp np ap bp : Option Addr) (kn kc nn nc an ac bn bc : Nat) (w : World) (h1 : (kn : Int) = 32) (h2 : ¬ (nn : Int) = 12) (hb : (bn : Int) ≤ 1048576) :
    Calls Tryd.prog 12 #[.slice kp kn kc, .slice np nn nc, .slice ap an ac, .slice bp bn bc] w fun e w' => ∃ p' c', e = .returned (.tuple #[.slice p' 0 c', .bool false]) ∧ Below w.heap.size w w' := by
  have mb : Below w.drew.heap.size w.drew (w.drew.alloc (.cells #[] 5)) := (Below.refl _ w.drew).alloc (Nat.le_refl _) _
  have mb' : Below w.heap.size w (w.drew.alloc (.cells #[] 5)) := (Below.refl _ w).drew.trans mb
  have z1 : ((kn : Int) != 32) = false := by simp [h1]
  have z2 : ((nn : Int) != 12) = true := by simp; omega
  go_enter Tryd.func12, Tryd.ntmps12
  go_wp2_with (fail)
  go_region
  go_wp2_with (fail)
  go_ret2
  first | exact mb' | exact ⟨⟨_, _, rfl⟩, mb'⟩ | exact ⟨_, _, rfl, mb'⟩

set_option maxHeartbeats 4000000 in
theorem specOpen_no3 (kp np ap bp : Option Addr) (kn kc nn nc an ac bn bc : Nat) (w : World) (h1 : (kn : Int) = 32) (h2 : (nn : Int) = 12) (h3 : ¬ (an : Int) ≤ 1500) (hb : (bn : Int) ≤ 1048576) :
    Calls Tryd.prog 12 #[.slice kp kn kc, .slice np nn nc, .slice ap an ac, .slice bp bn bc] w fun e w' => ∃ p' c', e = .returned (.tuple #[.slice p' 0 c', .bool false]) ∧ Below w.heap.size w w' := by
  have mb : Below w.drew.heap.size w.drew (w.drew.alloc (.cells #[] 5)) := (Below.refl _ w.drew).alloc (Nat.le_refl _) _
  have mb' : Below w.heap.size w (w.drew.alloc (.cells #[] 5)) := (Below.refl _ w).drew.trans mb
  have z1 : ((kn : Int) != 32) = false := by simp [h1]
  have z2 : ((nn : Int) != 12) = false := by simp [h2]
  have z3 : (1500 : Int) < (an : Int) := by omega
  go_enter Tryd.func12, Tryd.ntmps12
  go_wp2_with (fail)
  go_region
  go_wp2_with (fail)
  go_ret2
  first | exact mb' | exact ⟨⟨_, _, rfl⟩, mb'⟩ | exact ⟨_, _, rfl, mb'⟩

set_option maxHeartbeats 4000000 in
theorem specOpen_no4 (kp np ap bp : Option Addr) (kn kc nn nc an ac bn bc : Nat) (w : World) (h1 : (kn : Int) = 32) (h2 : (nn : Int) = 12) (h3 : (an : Int) ≤ 1500) (h4 : ¬ (0 ≤ (bn : Int) - 16 ∧ (bn : Int) - 16 ≤ 1500)) (hb : (bn : Int) ≤ 1048576) :
    Calls Tryd.prog 12 #[.slice kp kn kc, .slice np nn nc, .slice ap an ac, .slice bp bn bc] w fun e w' => ∃ p' c', e = .returned (.tuple #[.slice p' 0 c', .bool false]) ∧ Below w.heap.size w w' := by
  have mb : Below w.drew.heap.size w.drew (w.drew.alloc (.cells #[] 5)) := (Below.refl _ w.drew).alloc (Nat.le_refl _) _
  have mb' : Below w.heap.size w (w.drew.alloc (.cells #[] 5)) := (Below.refl _ w).drew.trans mb
  have CIN : ∀ X, Calls Tryd.prog 34 #[.int .i64 ((bn : Int) - 16), .int .i64 0, .int .i64 1500] X fun e w' => e = .returned (.bool false) ∧ w' = X := fun X => by
    have := l1In_is ((bn : Int) - 16) 0 1500 X
    rw [decide_eq_false h4] at this
    exact this
  clear h4
  have z1 : ((kn : Int) != 32) = false := by simp [h1]
  have z2 : ((nn : Int) != 12) = false := by simp [h2]
  have z3 : ¬ (1500 : Int) < (an : Int) := by omega
  go_enter Tryd.func12, Tryd.ntmps12
  go_wp2_with (fail)
  refine wp_region_noPanic ?_
  refine wp_region_held_drew (S := fun w' => True) (by kernel_rfl) (trivial) (fun hHeld => ?_)
  refine wpAnyH_take (i := 0) rfl (by kernel_rfl) (by kernel_rfl) (by kernel_rfl) (fun _ _ _ h => h) (Or.inl ⟨by rfl, fun X hSw => by ((try dsimp only at hSw); go_simp; try with_reducible rfl)⟩) hHeld ?_
  try simp only [Act.put, List.getElem_toArray, List.getElem_cons_zero, List.setIfInBounds_toArray, List.set_cons_zero, List.set_cons_succ]
  refine wpAnyH_take (i := 1) rfl (by kernel_rfl) (by kernel_rfl) (by kernel_rfl) (fun _ _ _ h => h) (Or.inl ⟨by rfl, fun X hSw => by ((try dsimp only at hSw); go_simp; try with_reducible rfl)⟩) hHeld ?_
  try simp only [Act.put, List.getElem_toArray, List.getElem_cons_zero, List.getElem_cons_succ, List.setIfInBounds_toArray, List.set_cons_zero, List.set_cons_succ]
  refine wpAnyH_take (i := 2) rfl (by kernel_rfl) (by kernel_rfl) (by kernel_rfl) (fun _ _ _ h => h) (Or.inl ⟨by rfl, fun X hSw => by ((try dsimp only at hSw); go_simp; try with_reducible rfl)⟩) hHeld ?_
  try simp only [Act.put, List.getElem_toArray, List.getElem_cons_zero, List.getElem_cons_succ, List.setIfInBounds_toArray, List.set_cons_zero, List.set_cons_succ]
  refine wpAnyH_take (i := 3) rfl (by kernel_rfl) (by kernel_rfl) (by kernel_rfl) (fun _ _ _ h => h) (Or.inl ⟨by rfl, fun X hSw => by ((try dsimp only at hSw); go_simp; try with_reducible rfl)⟩) hHeld ?_
  try simp only [Act.put, List.getElem_toArray, List.getElem_cons_zero, List.getElem_cons_succ, List.setIfInBounds_toArray, List.set_cons_zero, List.set_cons_succ]
  refine wpAnyH_take (i := 4) rfl (by kernel_rfl) (by kernel_rfl) (by kernel_rfl) (fun _ _ _ h => h) (Or.inl ⟨by rfl, fun X hSw => by ((try dsimp only at hSw); go_simp; try with_reducible rfl)⟩) hHeld ?_
  try simp only [Act.put, List.getElem_toArray, List.getElem_cons_zero, List.getElem_cons_succ, List.setIfInBounds_toArray, List.set_cons_zero, List.set_cons_succ]
  refine wpAnyH_take (i := 5) rfl (by kernel_rfl) (by kernel_rfl) (by kernel_rfl) (fun _ _ _ h => h) (Or.inl ⟨by rfl, fun X hSw => by ((try dsimp only at hSw); go_simp; try with_reducible rfl)⟩) hHeld ?_
  try simp only [Act.put, List.getElem_toArray, List.getElem_cons_zero, List.getElem_cons_succ, List.setIfInBounds_toArray, List.set_cons_zero, List.set_cons_succ]
  refine wpAnyH_take (i := 6) rfl (by kernel_rfl) (by kernel_rfl) (by kernel_rfl) (fun _ _ _ h => h) (Or.inl ⟨by rfl, fun X hSw => by ((try dsimp only at hSw); go_simp; try with_reducible rfl)⟩) hHeld ?_
  try simp only [Act.put, List.getElem_toArray, List.getElem_cons_zero, List.getElem_cons_succ, List.setIfInBounds_toArray, List.set_cons_zero, List.set_cons_succ]
  refine wpAnyH_take (i := 7) rfl (by kernel_rfl) (by kernel_rfl) (by kernel_rfl) (fun _ _ _ h => h) (Or.inl ⟨by rfl, fun X hSw => by ((try dsimp only at hSw); go_simp; try with_reducible rfl)⟩) hHeld ?_
  try simp only [Act.put, List.getElem_toArray, List.getElem_cons_zero, List.getElem_cons_succ, List.setIfInBounds_toArray, List.set_cons_zero, List.set_cons_succ]
  refine wpAnyH_take (i := 8) rfl (by kernel_rfl) (by kernel_rfl) (by kernel_rfl) (fun _ _ _ h => h) (Or.inl ⟨by rfl, fun X hSw => by ((try dsimp only at hSw); go_simp; try with_reducible rfl)⟩) hHeld ?_
  try simp only [Act.put, List.getElem_toArray, List.getElem_cons_zero, List.getElem_cons_succ, List.setIfInBounds_toArray, List.set_cons_zero, List.set_cons_succ]
  refine wpAnyH_take (i := 9) rfl (by kernel_rfl) (by kernel_rfl) (by kernel_rfl) (fun _ _ _ h => h) (Or.inl ⟨by rfl, fun X hSw => by ((try dsimp only at hSw); go_simp; try with_reducible rfl)⟩) hHeld ?_
  try simp only [Act.put, List.getElem_toArray, List.getElem_cons_zero, List.getElem_cons_succ, List.setIfInBounds_toArray, List.set_cons_zero, List.set_cons_succ]
  refine wpAnyH_take (i := 10) rfl (by kernel_rfl) (by kernel_rfl) (by kernel_rfl) (fun _ _ _ h => h) (Or.inl ⟨by rfl, fun X hSw => by ((try dsimp only at hSw); go_simp; try with_reducible rfl)⟩) hHeld ?_
  try simp only [Act.put, List.getElem_toArray, List.getElem_cons_zero, List.getElem_cons_succ, List.setIfInBounds_toArray, List.set_cons_zero, List.set_cons_succ]
  refine wpAnyH_take (i := 11) (v := .bool false) rfl (by kernel_rfl) (by kernel_rfl) (by kernel_rfl) (fun _ _ _ h => h) (Or.inl ⟨by rfl, fun X hSw => by ((try dsimp only at hSw); go_simp <;> (try simp) <;> (try omega))⟩) hHeld ?_
  try simp only [Act.put, List.getElem_toArray, List.getElem_cons_zero, List.getElem_cons_succ, List.setIfInBounds_toArray, List.set_cons_zero, List.set_cons_succ]
  refine wpAnyH_take (i := 12) rfl (by kernel_rfl) (by kernel_rfl) (by kernel_rfl) (fun _ _ _ h => h) (Or.inl ⟨by rfl, fun X hSw => by ((try dsimp only at hSw); go_simp; try with_reducible rfl)⟩) hHeld ?_
  try simp only [Act.put, List.getElem_toArray, List.getElem_cons_zero, List.getElem_cons_succ, List.setIfInBounds_toArray, List.set_cons_zero, List.set_cons_succ]
  refine wpAnyH_take (i := 13) rfl (by kernel_rfl) (by kernel_rfl) (by kernel_rfl) (fun _ _ _ h => h) (Or.inl ⟨by rfl, fun X hSw => by ((try dsimp only at hSw); go_simp; try with_reducible rfl)⟩) hHeld ?_
  try simp only [Act.put, List.getElem_toArray, List.getElem_cons_zero, List.getElem_cons_succ, List.setIfInBounds_toArray, List.set_cons_zero, List.set_cons_succ]
  refine wpAnyH_take (i := 14) rfl (by kernel_rfl) (by kernel_rfl) (by kernel_rfl) (fun _ _ _ h => h) (Or.inl ⟨by rfl, fun X hSw => by ((try dsimp only at hSw); go_simp; try with_reducible rfl)⟩) hHeld ?_
  try simp only [Act.put, List.getElem_toArray, List.getElem_cons_zero, List.getElem_cons_succ, List.setIfInBounds_toArray, List.set_cons_zero, List.set_cons_succ]
  refine wpAnyH_ready (rs := [15]) (by kernel_rfl) (by simp) ?_
  refine AllReadyH.cons rfl (fun K hK => ?_) AllReadyH.nil
  go_simp
  refine (CIN _).mono ?_
  rintro z v15 ⟨rfl, rfl⟩
  go_wp2_with (fail)
  refine hK.out _ _ (trivial) (fun hHeld => ?_)
  clear hK K
  try simp only [Act.put, List.getElem_toArray, List.getElem_cons_zero, List.getElem_cons_succ, List.setIfInBounds_toArray, List.set_cons_zero, List.set_cons_succ]
  refine wpAnyH_take (i := 16) rfl (by kernel_rfl) (by kernel_rfl) (by kernel_rfl) (fun _ _ _ h => h) (Or.inl ⟨by rfl, fun X hSw => by ((try dsimp only at hSw); go_simp; try with_reducible rfl)⟩) hHeld ?_
  try simp only [Act.put, List.getElem_toArray, List.getElem_cons_zero, List.getElem_cons_succ, List.setIfInBounds_toArray, List.set_cons_zero, List.set_cons_succ]
  refine wpAnyH_take (i := 17) rfl (by kernel_rfl) (by kernel_rfl) (by kernel_rfl) (fun _ _ _ h => h) (Or.inl ⟨by rfl, fun X hSw => by ((try dsimp only at hSw); go_simp; try with_reducible rfl)⟩) hHeld ?_
  try simp only [Act.put, List.getElem_toArray, List.getElem_cons_zero, List.getElem_cons_succ, List.setIfInBounds_toArray, List.set_cons_zero, List.set_cons_succ]
  refine wpAnyH_take (i := 18) rfl (by kernel_rfl) (by kernel_rfl) (by kernel_rfl) (fun _ _ _ h => h) (Or.inl ⟨by rfl, fun X hSw => by ((try dsimp only at hSw); go_simp; try with_reducible rfl)⟩) hHeld ?_
  try simp only [Act.put, List.getElem_toArray, List.getElem_cons_zero, List.getElem_cons_succ, List.setIfInBounds_toArray, List.set_cons_zero, List.set_cons_succ]
  refine wpAnyH_take (i := 19) (v := undef) rfl (by kernel_rfl) (by kernel_rfl) (by kernel_rfl) (fun _ _ _ h => h) (Or.inr ⟨by rfl, rfl⟩) hHeld ?_
  try simp only [Act.put, List.getElem_toArray, List.getElem_cons_zero, List.getElem_cons_succ, List.setIfInBounds_toArray, List.set_cons_zero, List.set_cons_succ]
  refine wpAnyH_take (i := 20) (v := undef) rfl (by kernel_rfl) (by kernel_rfl) (by kernel_rfl) (fun _ _ _ h => h) (Or.inr ⟨by rfl, rfl⟩) hHeld ?_
  try simp only [Act.put, List.getElem_toArray, List.getElem_cons_zero, List.getElem_cons_succ, List.setIfInBounds_toArray, List.set_cons_zero, List.set_cons_succ]
  refine wpAnyH_take (i := 21) (v := undef) rfl (by kernel_rfl) (by kernel_rfl) (by kernel_rfl) (fun _ _ _ h => h) (Or.inr ⟨by rfl, rfl⟩) hHeld ?_
  try simp only [Act.put, List.getElem_toArray, List.getElem_cons_zero, List.getElem_cons_succ, List.setIfInBounds_toArray, List.set_cons_zero, List.set_cons_succ]
  refine wpAnyH_take (i := 22) (v := undef) rfl (by kernel_rfl) (by kernel_rfl) (by kernel_rfl) (fun _ _ _ h => h) (Or.inr ⟨by rfl, rfl⟩) hHeld ?_
  try simp only [Act.put, List.getElem_toArray, List.getElem_cons_zero, List.getElem_cons_succ, List.setIfInBounds_toArray, List.set_cons_zero, List.set_cons_succ]
  refine wpAnyH_take (i := 23) (v := undef) rfl (by kernel_rfl) (by kernel_rfl) (by kernel_rfl) (fun _ _ _ h => h) (Or.inr ⟨by rfl, rfl⟩) hHeld ?_
  try simp only [Act.put, List.getElem_toArray, List.getElem_cons_zero, List.getElem_cons_succ, List.setIfInBounds_toArray, List.set_cons_zero, List.set_cons_succ]
  refine wpAnyH_take (i := 24) (v := undef) rfl (by kernel_rfl) (by kernel_rfl) (by kernel_rfl) (fun _ _ _ h => h) (Or.inr ⟨by rfl, rfl⟩) hHeld ?_
  try simp only [Act.put, List.getElem_toArray, List.getElem_cons_zero, List.getElem_cons_succ, List.setIfInBounds_toArray, List.set_cons_zero, List.set_cons_succ]
  refine wpAnyH_take (i := 26) (v := undef) rfl (by kernel_rfl) (by kernel_rfl) (by kernel_rfl) (fun _ _ _ h => h) (Or.inr ⟨by rfl, rfl⟩) hHeld ?_
  try simp only [Act.put, List.getElem_toArray, List.getElem_cons_zero, List.getElem_cons_succ, List.setIfInBounds_toArray, List.set_cons_zero, List.set_cons_succ]
  refine wpAnyH_take (i := 27) (v := undef) rfl (by kernel_rfl) (by kernel_rfl) (by kernel_rfl) (fun _ _ _ h => h) (Or.inr ⟨by rfl, rfl⟩) hHeld ?_
  try simp only [Act.put, List.getElem_toArray, List.getElem_cons_zero, List.getElem_cons_succ, List.setIfInBounds_toArray, List.set_cons_zero, List.set_cons_succ]
  refine wpAnyH_take (i := 28) (v := undef) rfl (by kernel_rfl) (by kernel_rfl) (by kernel_rfl) (fun _ _ _ h => h) (Or.inr ⟨by rfl, rfl⟩) hHeld ?_
  try simp only [Act.put, List.getElem_toArray, List.getElem_cons_zero, List.getElem_cons_succ, List.setIfInBounds_toArray, List.set_cons_zero, List.set_cons_succ]
  refine wpAnyH_take (i := 25) (v := undef) rfl (by kernel_rfl) (by kernel_rfl) (by kernel_rfl) (fun _ _ _ h => h) (Or.inr ⟨by rfl, rfl⟩) hHeld ?_
  try simp only [Act.put, List.getElem_toArray, List.getElem_cons_zero, List.getElem_cons_succ, List.setIfInBounds_toArray, List.set_cons_zero, List.set_cons_succ]
  refine wpAnyH_take (i := 29) (v := undef) rfl (by kernel_rfl) (by kernel_rfl) (by kernel_rfl) (fun _ _ _ h => h) (Or.inr ⟨by rfl, rfl⟩) hHeld ?_
  try simp only [Act.put, List.getElem_toArray, List.getElem_cons_zero, List.getElem_cons_succ, List.setIfInBounds_toArray, List.set_cons_zero, List.set_cons_succ]
  refine wpAnyH_take (i := 30) (v := undef) rfl (by kernel_rfl) (by kernel_rfl) (by kernel_rfl) (fun _ _ _ h => h) (Or.inr ⟨by rfl, rfl⟩) hHeld ?_
  try simp only [Act.put, List.getElem_toArray, List.getElem_cons_zero, List.getElem_cons_succ, List.setIfInBounds_toArray, List.set_cons_zero, List.set_cons_succ]
  refine wpAnyH_take (i := 31) rfl (by kernel_rfl) (by kernel_rfl) (by kernel_rfl) (fun _ _ _ h => h) (Or.inl ⟨by rfl, fun X hSw => by ((try dsimp only at hSw); go_simp; try with_reducible rfl)⟩) hHeld ?_
  try simp only [Act.put, List.getElem_toArray, List.getElem_cons_zero, List.getElem_cons_succ, List.setIfInBounds_toArray, List.set_cons_zero, List.set_cons_succ]
  refine wpAnyH_done (by kernel_rfl) ?_ _
  refine NoPanic.normal ?_
  go_wp2_with (fail)
  go_ret2
  first | exact mb' | exact ⟨⟨_, _, rfl⟩, mb'⟩ | exact ⟨_, _, rfl, mb'⟩

set_option maxHeartbeats 8000000 in
theorem specOpen_no5 (kp np ap : Option Addr) (b0 o0 kc nc an ac m bc : Nat) (KS NS AS BS : List Int) (w : World) (hK : KS.length = 32) (hN : NS.length = 12) (hA : AS.length = an) (hB : BS.length = m + 16) (han : an ≤ 1500) (hm : m ≤ 1500) (hbc : m + 16 ≤ bc) (ik : BytesIn w kp 32 KS) (im : BytesIn w np 12 NS) (ia : BytesIn w ap an AS) (ib : BytesIn w (some ⟨b0, o0, none⟩) (m + 16) BS)
    (bk : ∀ x ∈ KS, 0 ≤ x ∧ x < 256) (bm : ∀ x ∈ NS, 0 ≤ x ∧ x < 256) (ba : ∀ x ∈ AS, 0 ≤ x ∧ x < 256) (bb : ∀ x ∈ BS, 0 ≤ x ∧ x < 256) (hne : ¬ BS.drop m = stL KS NS AS (BS.take m)) :
    Calls Tryd.prog 12 #[.slice kp 32 kc, .slice np 12 nc, .slice ap an ac, .slice (some ⟨b0, o0, none⟩) (m + 16) bc] w fun e w' => ∃ p' c', e = .returned (.tuple #[.slice p' 0 c', .bool false]) ∧ Below w.heap.size w w' := by
  have CIN : ∀ X, Calls Tryd.prog 34 #[.int .i64 (m : Int), .int .i64 0, .int .i64 1500] X fun e w' => e = .returned (.bool true) ∧ w' = X := fun X => by
    have := l1In_is (m : Int) 0 1500 X
    rw [decide_eq_true (show 0 ≤ (m : Int) ∧ (m : Int) ≤ 1500 by omega)] at this
    exact this
  have hle : ttN an m ≤ 4000 := by
    have := fillN_lt an
    have := fillN_lt m
    unfold ttN
    omega
  have h16 : tagN 32 (ttN an m) = 16 := if_pos ⟨rfl, hle⟩
  have hTl : (BS.take m).length = m := by rw [List.length_take, hB]; omega
  have hDl : (BS.drop m).length = 16 := by rw [List.length_drop, hB]; omega
  have iT : BytesIn w (some ⟨b0, o0, none⟩) m (BS.take m) := fun h0 => by
    obtain ⟨b, o, e, hc⟩ := ib (by omega)
    refine ⟨b, o, e, fun i hi => ?_⟩
    have := hc i (by omega)
    rwa [List.getD_eq_getElem?_getD, List.getElem?_take, if_pos hi, ← List.getD_eq_getElem?_getD]
  have iD : BytesIn w (some ⟨b0, o0 + m, none⟩) 16 (BS.drop m) := fun h0 => by
    obtain ⟨b, o, e, hc⟩ := ib (by omega)
    obtain ⟨rfl, rfl⟩ : b0 = b ∧ o0 = o := by simpa using e
    refine ⟨b0, o0 + m, rfl, fun i hi => ?_⟩
    have := hc (m + i) (by omega)
    rw [List.getD_eq_getElem?_getD, List.getElem?_drop, ← List.getD_eq_getElem?_getD, Nat.add_assoc]
    exact this
  have CT := fun (X : World) (hX : Below w.heap.size w X) => l7Tag_any kp np ap (some ⟨b0, o0, none⟩) kc nc an ac m bc KS NS AS (BS.take m) X hK hN hA hTl (by omega) (by omega) (in_below ik hX) (in_below im hX) (in_below ia hX) (in_below iT hX) bk bm ba (fun x hx => bb x (List.mem_of_mem_take hx))
  simp only [h16] at CT
  have CD := fun (p : Option Addr) (c : Nat) (X : World) (hX : Below w.heap.size w X) (hp : BytesIn X p 16 (stL KS NS AS (BS.take m))) (hl : (stL KS NS AS (BS.take m)).length = 16) => specSame_any p (some ⟨b0, o0 + m, none⟩) 16 16 c (bc - m) (stL KS NS AS (BS.take m)) (BS.drop m) X hl hDl hp (in_below iD hX)
  have s1 := cut_to b0 o0 (m + 16) bc m (by omega)
  have s2 := cut_from b0 o0 (m + 16) bc m (by omega) (by omega)
  rw [show m + 16 - m = 16 by omega] at s2
  have hm0 : ((m + 16 : Nat) : Int) - 16 = (m : Int) := by omega
  have hm1 : (m : Int) ≤ 1500 := by omega
  have han1 : (an : Int) ≤ 1500 := by omega
  have bdr : Below w.heap.size w w.drew := (Below.refl _ w).drew
  have DQ : ((strOfNums (stL KS NS AS (BS.take m))).toList == (strOfNums (BS.drop m)).toList) = false := by
    rw [same_dec (show ∀ x ∈ stL KS NS AS (BS.take m), 0 ≤ x ∧ x < 256 from tagL_byte _ _) (fun x hx => bb x (List.mem_of_mem_drop hx))]
    exact decide_eq_false fun h => hne h.symm
  rw [DQ] at CD
  clear hne
  generalize stL KS NS AS (BS.take m) = TT at CT CD
  generalize bc - m = cd at s2 CD
  generalize o0 + m = om at s2 CD
  clear DQ ik im ia ib bk bm ba bb iT iD hDl hTl h16 hle hK hN hA hB han hm hbc
  go_enter Tryd.func12, Tryd.ntmps12
  go_wp2_with (fail)
  refine wp_region_noPanic ?_
  refine wp_region_held_drew (S := fun w' => True) (by kernel_rfl) (trivial) (fun hHeld => ?_)
  refine wpAnyH_take (i := 0) rfl (by kernel_rfl) (by kernel_rfl) (by kernel_rfl) (fun _ _ _ h => h) (Or.inl ⟨by rfl, fun X hSw => by ((try dsimp only at hSw); go_simp; try with_reducible rfl)⟩) hHeld ?_
  try simp only [Act.put, List.getElem_toArray, List.getElem_cons_zero, List.setIfInBounds_toArray, List.set_cons_zero, List.set_cons_succ]
  refine wpAnyH_take (i := 1) rfl (by kernel_rfl) (by kernel_rfl) (by kernel_rfl) (fun _ _ _ h => h) (Or.inl ⟨by rfl, fun X hSw => by ((try dsimp only at hSw); go_simp; try with_reducible rfl)⟩) hHeld ?_
  try simp only [Act.put, List.getElem_toArray, List.getElem_cons_zero, List.getElem_cons_succ, List.setIfInBounds_toArray, List.set_cons_zero, List.set_cons_succ]
  refine wpAnyH_take (i := 2) rfl (by kernel_rfl) (by kernel_rfl) (by kernel_rfl) (fun _ _ _ h => h) (Or.inl ⟨by rfl, fun X hSw => by ((try dsimp only at hSw); go_simp; try with_reducible rfl)⟩) hHeld ?_
  try simp only [Act.put, List.getElem_toArray, List.getElem_cons_zero, List.getElem_cons_succ, List.setIfInBounds_toArray, List.set_cons_zero, List.set_cons_succ]
  refine wpAnyH_take (i := 3) rfl (by kernel_rfl) (by kernel_rfl) (by kernel_rfl) (fun _ _ _ h => h) (Or.inl ⟨by rfl, fun X hSw => by ((try dsimp only at hSw); go_simp; try with_reducible rfl)⟩) hHeld ?_
  try simp only [Act.put, List.getElem_toArray, List.getElem_cons_zero, List.getElem_cons_succ, List.setIfInBounds_toArray, List.set_cons_zero, List.set_cons_succ]
  refine wpAnyH_take (i := 4) rfl (by kernel_rfl) (by kernel_rfl) (by kernel_rfl) (fun _ _ _ h => h) (Or.inl ⟨by rfl, fun X hSw => by ((try dsimp only at hSw); go_simp; try with_reducible rfl)⟩) hHeld ?_
  try simp only [Act.put, List.getElem_toArray, List.getElem_cons_zero, List.getElem_cons_succ, List.setIfInBounds_toArray, List.set_cons_zero, List.set_cons_succ]
  refine wpAnyH_take (i := 5) rfl (by kernel_rfl) (by kernel_rfl) (by kernel_rfl) (fun _ _ _ h => h) (Or.inl ⟨by rfl, fun X hSw => by ((try dsimp only at hSw); go_simp; try with_reducible rfl)⟩) hHeld ?_
  try simp only [Act.put, List.getElem_toArray, List.getElem_cons_zero, List.getElem_cons_succ, List.setIfInBounds_toArray, List.set_cons_zero, List.set_cons_succ]
  refine wpAnyH_take (i := 6) rfl (by kernel_rfl) (by kernel_rfl) (by kernel_rfl) (fun _ _ _ h => h) (Or.inl ⟨by rfl, fun X hSw => by ((try dsimp only at hSw); go_simp; try with_reducible rfl)⟩) hHeld ?_
  try simp only [Act.put, List.getElem_toArray, List.getElem_cons_zero, List.getElem_cons_succ, List.setIfInBounds_toArray, List.set_cons_zero, List.set_cons_succ]
  refine wpAnyH_take (i := 7) rfl (by kernel_rfl) (by kernel_rfl) (by kernel_rfl) (fun _ _ _ h => h) (Or.inl ⟨by rfl, fun X hSw => by ((try dsimp only at hSw); go_simp; try with_reducible rfl)⟩) hHeld ?_
  try simp only [Act.put, List.getElem_toArray, List.getElem_cons_zero, List.getElem_cons_succ, List.setIfInBounds_toArray, List.set_cons_zero, List.set_cons_succ]
  refine wpAnyH_take (i := 8) rfl (by kernel_rfl) (by kernel_rfl) (by kernel_rfl) (fun _ _ _ h => h) (Or.inl ⟨by rfl, fun X hSw => by ((try dsimp only at hSw); go_simp; try with_reducible rfl)⟩) hHeld ?_
  try simp only [Act.put, List.getElem_toArray, List.getElem_cons_zero, List.getElem_cons_succ, List.setIfInBounds_toArray, List.set_cons_zero, List.set_cons_succ]
  refine wpAnyH_take (i := 9) rfl (by kernel_rfl) (by kernel_rfl) (by kernel_rfl) (fun _ _ _ h => h) (Or.inl ⟨by rfl, fun X hSw => by ((try dsimp only at hSw); go_simp; try with_reducible rfl)⟩) hHeld ?_
  try simp only [Act.put, List.getElem_toArray, List.getElem_cons_zero, List.getElem_cons_succ, List.setIfInBounds_toArray, List.set_cons_zero, List.set_cons_succ]
  refine wpAnyH_take (i := 10) rfl (by kernel_rfl) (by kernel_rfl) (by kernel_rfl) (fun _ _ _ h => h) (Or.inl ⟨by rfl, fun X hSw => by ((try dsimp only at hSw); go_simp; try with_reducible rfl)⟩) hHeld ?_
  try simp only [Act.put, List.getElem_toArray, List.getElem_cons_zero, List.getElem_cons_succ, List.setIfInBounds_toArray, List.set_cons_zero, List.set_cons_succ]
  refine wpAnyH_take (i := 11) (v := .bool false) rfl (by kernel_rfl) (by kernel_rfl) (by kernel_rfl) (fun _ _ _ h => h) (Or.inl ⟨by rfl, fun X hSw => by ((try dsimp only at hSw); go_simp <;> (try simp) <;> (try omega))⟩) hHeld ?_
  try simp only [Act.put, List.getElem_toArray, List.getElem_cons_zero, List.getElem_cons_succ, List.setIfInBounds_toArray, List.set_cons_zero, List.set_cons_succ]
  refine wpAnyH_take (i := 12) rfl (by kernel_rfl) (by kernel_rfl) (by kernel_rfl) (fun _ _ _ h => h) (Or.inl ⟨by rfl, fun X hSw => by ((try dsimp only at hSw); go_simp; try with_reducible rfl)⟩) hHeld ?_
  try simp only [Act.put, List.getElem_toArray, List.getElem_cons_zero, List.getElem_cons_succ, List.setIfInBounds_toArray, List.set_cons_zero, List.set_cons_succ]
  refine wpAnyH_take (i := 13) rfl (by kernel_rfl) (by kernel_rfl) (by kernel_rfl) (fun _ _ _ h => h) (Or.inl ⟨by rfl, fun X hSw => by ((try dsimp only at hSw); go_simp; try with_reducible rfl)⟩) hHeld ?_
  try simp only [Act.put, List.getElem_toArray, List.getElem_cons_zero, List.getElem_cons_succ, List.setIfInBounds_toArray, List.set_cons_zero, List.set_cons_succ]
  refine wpAnyH_take (i := 14) rfl (by kernel_rfl) (by kernel_rfl) (by kernel_rfl) (fun _ _ _ h => h) (Or.inl ⟨by rfl, fun X hSw => by ((try dsimp only at hSw); go_simp; try with_reducible rfl)⟩) hHeld ?_
  try simp only [Act.put, List.getElem_toArray, List.getElem_cons_zero, List.getElem_cons_succ, List.setIfInBounds_toArray, List.set_cons_zero, List.set_cons_succ]
  refine wpAnyH_ready (rs := [15]) (by kernel_rfl) (by simp) ?_
  refine AllReadyH.cons rfl (fun K hK => ?_) AllReadyH.nil
  go_simp
  refine (CIN _).mono ?_
  rintro z v15 ⟨rfl, rfl⟩
  go_wp2_with (fail)
  refine hK.out _ _ (trivial) (fun hHeld => ?_)
  clear hK K
  try simp only [Act.put, List.getElem_toArray, List.getElem_cons_zero, List.getElem_cons_succ, List.setIfInBounds_toArray, List.set_cons_zero, List.set_cons_succ]
  refine wpAnyH_take (i := 16) rfl (by kernel_rfl) (by kernel_rfl) (by kernel_rfl) (fun _ _ _ h => h) (Or.inl ⟨by rfl, fun X hSw => by ((try dsimp only at hSw); go_simp; try with_reducible rfl)⟩) hHeld ?_
  try simp only [Act.put, List.getElem_toArray, List.getElem_cons_zero, List.getElem_cons_succ, List.setIfInBounds_toArray, List.set_cons_zero, List.set_cons_succ]
  refine wpAnyH_take (i := 17) rfl (by kernel_rfl) (by kernel_rfl) (by kernel_rfl) (fun _ _ _ h => h) (Or.inl ⟨by rfl, fun X hSw => by ((try dsimp only at hSw); go_simp; try with_reducible rfl)⟩) hHeld ?_
  try simp only [Act.put, List.getElem_toArray, List.getElem_cons_zero, List.getElem_cons_succ, List.setIfInBounds_toArray, List.set_cons_zero, List.set_cons_succ]
  refine wpAnyH_take (i := 18) rfl (by kernel_rfl) (by kernel_rfl) (by kernel_rfl) (fun _ _ _ h => h) (Or.inl ⟨by rfl, fun X hSw => by ((try dsimp only at hSw); go_simp; try with_reducible rfl)⟩) hHeld ?_
  try simp only [Act.put, List.getElem_toArray, List.getElem_cons_zero, List.getElem_cons_succ, List.setIfInBounds_toArray, List.set_cons_zero, List.set_cons_succ]
  refine wpAnyH_take (i := 19) rfl (by kernel_rfl) (by kernel_rfl) (by kernel_rfl) (fun _ _ _ h => h) (Or.inl ⟨by rfl, fun X hSw => by ((try dsimp only at hSw); go_simp; try with_reducible rfl)⟩) hHeld ?_
  try simp only [Act.put, List.getElem_toArray, List.getElem_cons_zero, List.getElem_cons_succ, List.setIfInBounds_toArray, List.set_cons_zero, List.set_cons_succ]
  refine wpAnyH_take (i := 20) rfl (by kernel_rfl) (by kernel_rfl) (by kernel_rfl) (fun _ _ _ h => h) (Or.inl ⟨by rfl, fun X hSw => by ((try dsimp only at hSw); go_simp; try with_reducible rfl)⟩) hHeld ?_
  try simp only [Act.put, List.getElem_toArray, List.getElem_cons_zero, List.getElem_cons_succ, List.setIfInBounds_toArray, List.set_cons_zero, List.set_cons_succ]
  refine wpAnyH_take (i := 21) rfl (by kernel_rfl) (by kernel_rfl) (by kernel_rfl) (fun _ _ _ h => h) (Or.inl ⟨by rfl, fun X hSw => by ((try dsimp only at hSw); go_simp; try with_reducible rfl)⟩) hHeld ?_
  try simp only [Act.put, List.getElem_toArray, List.getElem_cons_zero, List.getElem_cons_succ, List.setIfInBounds_toArray, List.set_cons_zero, List.set_cons_succ]
  refine wpAnyH_take (i := 22) rfl (by kernel_rfl) (by kernel_rfl) (by kernel_rfl) (fun _ _ _ h => h) (Or.inl ⟨by rfl, fun X hSw => by ((try dsimp only at hSw); go_simp; try with_reducible rfl)⟩) hHeld ?_
  try simp only [Act.put, List.getElem_toArray, List.getElem_cons_zero, List.getElem_cons_succ, List.setIfInBounds_toArray, List.set_cons_zero, List.set_cons_succ]
  refine wpAnyH_take (i := 23) rfl (by kernel_rfl) (by kernel_rfl) (by kernel_rfl) (fun _ _ _ h => h) (Or.inl ⟨by rfl, fun X hSw => by ((try dsimp only at hSw); go_simp; try with_reducible rfl)⟩) hHeld ?_
  try simp only [Act.put, List.getElem_toArray, List.getElem_cons_zero, List.getElem_cons_succ, List.setIfInBounds_toArray, List.set_cons_zero, List.set_cons_succ]
  refine wpAnyH_take (i := 24) rfl (by kernel_rfl) (by kernel_rfl) (by kernel_rfl) (fun _ _ _ h => h) (Or.inl ⟨by rfl, fun X hSw => by ((try dsimp only at hSw); go_simp; try with_reducible rfl)⟩) hHeld ?_
  try simp only [Act.put, List.getElem_toArray, List.getElem_cons_zero, List.getElem_cons_succ, List.setIfInBounds_toArray, List.set_cons_zero, List.set_cons_succ]
  refine wpAnyH_take (i := 26) rfl (by kernel_rfl) (by kernel_rfl) (by kernel_rfl) (fun _ _ _ h => h) (Or.inl ⟨by rfl, fun X hSw => by ((try dsimp only at hSw); go_simp; try with_reducible rfl)⟩) hHeld ?_
  try simp only [Act.put, List.getElem_toArray, List.getElem_cons_zero, List.getElem_cons_succ, List.setIfInBounds_toArray, List.set_cons_zero, List.set_cons_succ]
  refine wpAnyH_take (i := 27) rfl (by kernel_rfl) (by kernel_rfl) (by kernel_rfl) (fun _ _ _ h => h) (Or.inl ⟨by rfl, fun X hSw => by ((try dsimp only at hSw); go_simp; try with_reducible rfl)⟩) hHeld ?_
  try simp only [Act.put, List.getElem_toArray, List.getElem_cons_zero, List.getElem_cons_succ, List.setIfInBounds_toArray, List.set_cons_zero, List.set_cons_succ]
  refine wpAnyH_take (i := 28) rfl (by kernel_rfl) (by kernel_rfl) (by kernel_rfl) (fun _ _ _ h => h) (Or.inl ⟨by rfl, fun X hSw => by ((try dsimp only at hSw); go_simp; try with_reducible rfl)⟩) hHeld ?_
  try simp only [Act.put, List.getElem_toArray, List.getElem_cons_zero, List.getElem_cons_succ, List.setIfInBounds_toArray, List.set_cons_zero, List.set_cons_succ]
  refine wpAnyH_ready (rs := [25]) (by kernel_rfl) (by simp) ?_
  refine AllReadyH.cons rfl (fun K hK => ?_) AllReadyH.nil
  go_simp
  refine (CT _ bdr).mono ?_
  rintro z v25 ⟨p9, c9, rfl, r9, b9⟩
  go_wp2_with (fail)
  refine hK.out _ _ (trivial) (fun hHeld => ?_)
  clear hK K
  try simp only [Act.put, List.getElem_toArray, List.getElem_cons_zero, List.getElem_cons_succ, List.setIfInBounds_toArray, List.set_cons_zero, List.set_cons_succ]
  refine wpAnyH_ready (rs := [29]) (by kernel_rfl) (by simp) ?_
  refine AllReadyH.cons rfl (fun K hK => ?_) AllReadyH.nil
  go_simp
  refine (CD p9 c9 _ (below_on bdr b9) r9.bytes r9.len).mono ?_
  rintro z v29 ⟨rfl, b10⟩
  go_wp2_with (fail)
  refine hK.out _ _ (trivial) (fun hHeld => ?_)
  clear hK K
  try simp only [Act.put, List.getElem_toArray, List.getElem_cons_zero, List.getElem_cons_succ, List.setIfInBounds_toArray, List.set_cons_zero, List.set_cons_succ]
  refine wpAnyH_take (i := 30) rfl (by kernel_rfl) (by kernel_rfl) (by kernel_rfl) (fun _ _ _ h => h) (Or.inl ⟨by rfl, fun X hSw => by ((try dsimp only at hSw); go_simp; try with_reducible rfl)⟩) hHeld ?_
  try simp only [Act.put, List.getElem_toArray, List.getElem_cons_zero, List.getElem_cons_succ, List.setIfInBounds_toArray, List.set_cons_zero, List.set_cons_succ]
  refine wpAnyH_take (i := 31) rfl (by kernel_rfl) (by kernel_rfl) (by kernel_rfl) (fun _ _ _ h => h) (Or.inl ⟨by rfl, fun X hSw => by ((try dsimp only at hSw); go_simp; try with_reducible rfl)⟩) hHeld ?_
  try simp only [Act.put, List.getElem_toArray, List.getElem_cons_zero, List.getElem_cons_succ, List.setIfInBounds_toArray, List.set_cons_zero, List.set_cons_succ]
  refine wpAnyH_done (by kernel_rfl) ?_ _
  refine NoPanic.normal ?_
  have b11 := below_on (below_on bdr b9) b10
  go_wp2_with (fail)
  go_ret2
  refine ⟨_, _, rfl, b11.trans ((Below.refl _ _).alloc b11.size _)⟩

set_option maxHeartbeats 8000000 in
theorem specOpen_yes (kp np ap : Option Addr) (b0 o0 kc nc an ac m bc : Nat) (KS NS AS BS : List Int) (w : World) (hK : KS.length = 32) (hN : NS.length = 12) (hA : AS.length = an) (hB : BS.length = m + 16) (han : an ≤ 1500) (hm : m ≤ 1500) (hbc : m + 16 ≤ bc) (ik : BytesIn w kp 32 KS) (im : BytesIn w np 12 NS) (ia : BytesIn w ap an AS) (ib : BytesIn w (some ⟨b0, o0, none⟩) (m + 16) BS)
    (bk : ∀ x ∈ KS, 0 ≤ x ∧ x < 256) (bm : ∀ x ∈ NS, 0 ≤ x ∧ x < 256) (ba : ∀ x ∈ AS, 0 ≤ x ∧ x < 256) (bb : ∀ x ∈ BS, 0 ≤ x ∧ x < 256) (heq : BS.drop m = stL KS NS AS (BS.take m)) :
    Calls Tryd.prog 12 #[.slice kp 32 kc, .slice np 12 nc, .slice ap an ac, .slice (some ⟨b0, o0, none⟩) (m + 16) bc] w fun e w' => ∃ p' c', e = .returned (.tuple #[.slice p' m c', .bool true]) ∧ Own 5 w' w.heap.size w'.heap.size (.slice p' m c') m (strT KS 1 NS (BS.take m)) ∧ Below w.heap.size w w' := by
  have CIN : ∀ X, Calls Tryd.prog 34 #[.int .i64 (m : Int), .int .i64 0, .int .i64 1500] X fun e w' => e = .returned (.bool true) ∧ w' = X := fun X => by
    have := l1In_is (m : Int) 0 1500 X
    rw [decide_eq_true (show 0 ≤ (m : Int) ∧ (m : Int) ≤ 1500 by omega)] at this
    exact this
  have hle : ttN an m ≤ 4000 := by
    have := fillN_lt an
    have := fillN_lt m
    unfold ttN
    omega
  have h16 : tagN 32 (ttN an m) = 16 := if_pos ⟨rfl, hle⟩
  have hTl : (BS.take m).length = m := by rw [List.length_take, hB]; omega
  have hDl : (BS.drop m).length = 16 := by rw [List.length_drop, hB]; omega
  have iT : BytesIn w (some ⟨b0, o0, none⟩) m (BS.take m) := fun h0 => by
    obtain ⟨b, o, e, hc⟩ := ib (by omega)
    refine ⟨b, o, e, fun i hi => ?_⟩
    have := hc i (by omega)
    rwa [List.getD_eq_getElem?_getD, List.getElem?_take, if_pos hi, ← List.getD_eq_getElem?_getD]
  have iD : BytesIn w (some ⟨b0, o0 + m, none⟩) 16 (BS.drop m) := fun h0 => by
    obtain ⟨b, o, e, hc⟩ := ib (by omega)
    obtain ⟨rfl, rfl⟩ : b0 = b ∧ o0 = o := by simpa using e
    refine ⟨b0, o0 + m, rfl, fun i hi => ?_⟩
    have := hc (m + i) (by omega)
    rw [List.getD_eq_getElem?_getD, List.getElem?_drop, ← List.getD_eq_getElem?_getD, Nat.add_assoc]
    exact this
  have CT := fun (X : World) (hX : Below w.heap.size w X) => l7Tag_any kp np ap (some ⟨b0, o0, none⟩) kc nc an ac m bc KS NS AS (BS.take m) X hK hN hA hTl (by omega) (by omega) (in_below ik hX) (in_below im hX) (in_below ia hX) (in_below iT hX) bk bm ba (fun x hx => bb x (List.mem_of_mem_take hx))
  simp only [h16] at CT
  have CD := fun (p : Option Addr) (c : Nat) (X : World) (hX : Below w.heap.size w X) (hp : BytesIn X p 16 (stL KS NS AS (BS.take m))) (hl : (stL KS NS AS (BS.take m)).length = 16) => specSame_any p (some ⟨b0, o0 + m, none⟩) 16 16 c (bc - m) (stL KS NS AS (BS.take m)) (BS.drop m) X hl hDl hp (in_below iD hX)
  have s1 := cut_to b0 o0 (m + 16) bc m (by omega)
  have s2 := cut_from b0 o0 (m + 16) bc m (by omega) (by omega)
  rw [show m + 16 - m = 16 by omega] at s2
  have hm0 : ((m + 16 : Nat) : Int) - 16 = (m : Int) := by omega
  have hm1 : (m : Int) ≤ 1500 := by omega
  have han1 : (an : Int) ≤ 1500 := by omega
  have bdr : Below w.heap.size w w.drew := (Below.refl _ w).drew
  have DQ : ((strOfNums (stL KS NS AS (BS.take m))).toList == (strOfNums (BS.drop m)).toList) = true := by
    rw [same_dec (show ∀ x ∈ stL KS NS AS (BS.take m), 0 ≤ x ∧ x < 256 from tagL_byte _ _) (fun x hx => bb x (List.mem_of_mem_drop hx))]
    exact decide_eq_true heq.symm
  rw [DQ] at CD
  clear heq
  have hgood : GoodT KS.length NS.length (BS.take m).length 1 := ⟨hK, hN, by omega, by omega, by omega⟩
  have CS := fun (X : World) (hX : Below w.heap.size w X) => specStr_any kp np (some ⟨b0, o0, none⟩) 32 12 m kc nc bc 1 KS NS (BS.take m) X (by omega) hK hN hTl (in_below ik hX) (in_below im hX) (in_below iT hX) bk bm
  rw [good_ok hgood] at CS
  have hSl : (strT KS 1 NS (BS.take m)).length = m := by rw [strT_length]; exact hTl
  generalize strT KS 1 NS (BS.take m) = ST at CS hSl ⊢
  clear hgood
  generalize stL KS NS AS (BS.take m) = TT at CT CD
  generalize bc - m = cd at s2 CD
  generalize o0 + m = om at s2 CD
  clear DQ ik im ia ib bk bm ba bb iT iD hDl hTl h16 hle hK hN hA hB han hm hbc
  have HSl : Hid (ST.length = m) := hSl
  clear hSl
  go_enter Tryd.func12, Tryd.ntmps12
  go_wp2_with (fail)
  refine wp_region_noPanic ?_
  refine wp_region_held_drew (S := fun w' => True) (by kernel_rfl) (trivial) (fun hHeld => ?_)
  refine wpAnyH_take (i := 0) rfl (by kernel_rfl) (by kernel_rfl) (by kernel_rfl) (fun _ _ _ h => h) (Or.inl ⟨by rfl, fun X hSw => by ((try dsimp only at hSw); go_simp; try with_reducible rfl)⟩) hHeld ?_
  try simp only [Act.put, List.getElem_toArray, List.getElem_cons_zero, List.setIfInBounds_toArray, List.set_cons_zero, List.set_cons_succ]
  refine wpAnyH_take (i := 1) rfl (by kernel_rfl) (by kernel_rfl) (by kernel_rfl) (fun _ _ _ h => h) (Or.inl ⟨by rfl, fun X hSw => by ((try dsimp only at hSw); go_simp; try with_reducible rfl)⟩) hHeld ?_
  try simp only [Act.put, List.getElem_toArray, List.getElem_cons_zero, List.getElem_cons_succ, List.setIfInBounds_toArray, List.set_cons_zero, List.set_cons_succ]
  refine wpAnyH_take (i := 2) rfl (by kernel_rfl) (by kernel_rfl) (by kernel_rfl) (fun _ _ _ h => h) (Or.inl ⟨by rfl, fun X hSw => by ((try dsimp only at hSw); go_simp; try with_reducible rfl)⟩) hHeld ?_
  try simp only [Act.put, List.getElem_toArray, List.getElem_cons_zero, List.getElem_cons_succ, List.setIfInBounds_toArray, List.set_cons_zero, List.set_cons_succ]
  refine wpAnyH_take (i := 3) rfl (by kernel_rfl) (by kernel_rfl) (by kernel_rfl) (fun _ _ _ h => h) (Or.inl ⟨by rfl, fun X hSw => by ((try dsimp only at hSw); go_simp; try with_reducible rfl)⟩) hHeld ?_
  try simp only [Act.put, List.getElem_toArray, List.getElem_cons_zero, List.getElem_cons_succ, List.setIfInBounds_toArray, List.set_cons_zero, List.set_cons_succ]
  refine wpAnyH_take (i := 4) rfl (by kernel_rfl) (by kernel_rfl) (by kernel_rfl) (fun _ _ _ h => h) (Or.inl ⟨by rfl, fun X hSw => by ((try dsimp only at hSw); go_simp; try with_reducible rfl)⟩) hHeld ?_
  try simp only [Act.put, List.getElem_toArray, List.getElem_cons_zero, List.getElem_cons_succ, List.setIfInBounds_toArray, List.set_cons_zero, List.set_cons_succ]
  refine wpAnyH_take (i := 5) rfl (by kernel_rfl) (by kernel_rfl) (by kernel_rfl) (fun _ _ _ h => h) (Or.inl ⟨by rfl, fun X hSw => by ((try dsimp only at hSw); go_simp; try with_reducible rfl)⟩) hHeld ?_
  try simp only [Act.put, List.getElem_toArray, List.getElem_cons_zero, List.getElem_cons_succ, List.setIfInBounds_toArray, List.set_cons_zero, List.set_cons_succ]
  refine wpAnyH_take (i := 6) rfl (by kernel_rfl) (by kernel_rfl) (by kernel_rfl) (fun _ _ _ h => h) (Or.inl ⟨by rfl, fun X hSw => by ((try dsimp only at hSw); go_simp; try with_reducible rfl)⟩) hHeld ?_
  try simp only [Act.put, List.getElem_toArray, List.getElem_cons_zero, List.getElem_cons_succ, List.setIfInBounds_toArray, List.set_cons_zero, List.set_cons_succ]
  refine wpAnyH_take (i := 7) rfl (by kernel_rfl) (by kernel_rfl) (by kernel_rfl) (fun _ _ _ h => h) (Or.inl ⟨by rfl, fun X hSw => by ((try dsimp only at hSw); go_simp; try with_reducible rfl)⟩) hHeld ?_
  try simp only [Act.put, List.getElem_toArray, List.getElem_cons_zero, List.getElem_cons_succ, List.setIfInBounds_toArray, List.set_cons_zero, List.set_cons_succ]
  refine wpAnyH_take (i := 8) rfl (by kernel_rfl) (by kernel_rfl) (by kernel_rfl) (fun _ _ _ h => h) (Or.inl ⟨by rfl, fun X hSw => by ((try dsimp only at hSw); go_simp; try with_reducible rfl)⟩) hHeld ?_
  try simp only [Act.put, List.getElem_toArray, List.getElem_cons_zero, List.getElem_cons_succ, List.setIfInBounds_toArray, List.set_cons_zero, List.set_cons_succ]
  refine wpAnyH_take (i := 9) rfl (by kernel_rfl) (by kernel_rfl) (by kernel_rfl) (fun _ _ _ h => h) (Or.inl ⟨by rfl, fun X hSw => by ((try dsimp only at hSw); go_simp; try with_reducible rfl)⟩) hHeld ?_
  try simp only [Act.put, List.getElem_toArray, List.getElem_cons_zero, List.getElem_cons_succ, List.setIfInBounds_toArray, List.set_cons_zero, List.set_cons_succ]
  refine wpAnyH_take (i := 10) rfl (by kernel_rfl) (by kernel_rfl) (by kernel_rfl) (fun _ _ _ h => h) (Or.inl ⟨by rfl, fun X hSw => by ((try dsimp only at hSw); go_simp; try with_reducible rfl)⟩) hHeld ?_
  try simp only [Act.put, List.getElem_toArray, List.getElem_cons_zero, List.getElem_cons_succ, List.setIfInBounds_toArray, List.set_cons_zero, List.set_cons_succ]
  refine wpAnyH_take (i := 11) (v := .bool false) rfl (by kernel_rfl) (by kernel_rfl) (by kernel_rfl) (fun _ _ _ h => h) (Or.inl ⟨by rfl, fun X hSw => by ((try dsimp only at hSw); go_simp <;> (try simp) <;> (try omega))⟩) hHeld ?_
  try simp only [Act.put, List.getElem_toArray, List.getElem_cons_zero, List.getElem_cons_succ, List.setIfInBounds_toArray, List.set_cons_zero, List.set_cons_succ]
  refine wpAnyH_take (i := 12) rfl (by kernel_rfl) (by kernel_rfl) (by kernel_rfl) (fun _ _ _ h => h) (Or.inl ⟨by rfl, fun X hSw => by ((try dsimp only at hSw); go_simp; try with_reducible rfl)⟩) hHeld ?_
  try simp only [Act.put, List.getElem_toArray, List.getElem_cons_zero, List.getElem_cons_succ, List.setIfInBounds_toArray, List.set_cons_zero, List.set_cons_succ]
  refine wpAnyH_take (i := 13) rfl (by kernel_rfl) (by kernel_rfl) (by kernel_rfl) (fun _ _ _ h => h) (Or.inl ⟨by rfl, fun X hSw => by ((try dsimp only at hSw); go_simp; try with_reducible rfl)⟩) hHeld ?_
  try simp only [Act.put, List.getElem_toArray, List.getElem_cons_zero, List.getElem_cons_succ, List.setIfInBounds_toArray, List.set_cons_zero, List.set_cons_succ]
  refine wpAnyH_take (i := 14) rfl (by kernel_rfl) (by kernel_rfl) (by kernel_rfl) (fun _ _ _ h => h) (Or.inl ⟨by rfl, fun X hSw => by ((try dsimp only at hSw); go_simp; try with_reducible rfl)⟩) hHeld ?_
  try simp only [Act.put, List.getElem_toArray, List.getElem_cons_zero, List.getElem_cons_succ, List.setIfInBounds_toArray, List.set_cons_zero, List.set_cons_succ]
  refine wpAnyH_ready (rs := [15]) (by kernel_rfl) (by simp) ?_
  refine AllReadyH.cons rfl (fun K hK => ?_) AllReadyH.nil
  go_simp
  refine (CIN _).mono ?_
  rintro z v15 ⟨rfl, rfl⟩
  go_wp2_with (fail)
  refine hK.out _ _ (trivial) (fun hHeld => ?_)
  clear hK K
  try simp only [Act.put, List.getElem_toArray, List.getElem_cons_zero, List.getElem_cons_succ, List.setIfInBounds_toArray, List.set_cons_zero, List.set_cons_succ]
  refine wpAnyH_take (i := 16) rfl (by kernel_rfl) (by kernel_rfl) (by kernel_rfl) (fun _ _ _ h => h) (Or.inl ⟨by rfl, fun X hSw => by ((try dsimp only at hSw); go_simp; try with_reducible rfl)⟩) hHeld ?_
  try simp only [Act.put, List.getElem_toArray, List.getElem_cons_zero, List.getElem_cons_succ, List.setIfInBounds_toArray, List.set_cons_zero, List.set_cons_succ]
  refine wpAnyH_take (i := 17) rfl (by kernel_rfl) (by kernel_rfl) (by kernel_rfl) (fun _ _ _ h => h) (Or.inl ⟨by rfl, fun X hSw => by ((try dsimp only at hSw); go_simp; try with_reducible rfl)⟩) hHeld ?_
  try simp only [Act.put, List.getElem_toArray, List.getElem_cons_zero, List.getElem_cons_succ, List.setIfInBounds_toArray, List.set_cons_zero, List.set_cons_succ]
  refine wpAnyH_take (i := 18) rfl (by kernel_rfl) (by kernel_rfl) (by kernel_rfl) (fun _ _ _ h => h) (Or.inl ⟨by rfl, fun X hSw => by ((try dsimp only at hSw); go_simp; try with_reducible rfl)⟩) hHeld ?_
  try simp only [Act.put, List.getElem_toArray, List.getElem_cons_zero, List.getElem_cons_succ, List.setIfInBounds_toArray, List.set_cons_zero, List.set_cons_succ]
  refine wpAnyH_take (i := 19) rfl (by kernel_rfl) (by kernel_rfl) (by kernel_rfl) (fun _ _ _ h => h) (Or.inl ⟨by rfl, fun X hSw => by ((try dsimp only at hSw); go_simp; try with_reducible rfl)⟩) hHeld ?_
  try simp only [Act.put, List.getElem_toArray, List.getElem_cons_zero, List.getElem_cons_succ, List.setIfInBounds_toArray, List.set_cons_zero, List.set_cons_succ]
  refine wpAnyH_take (i := 20) rfl (by kernel_rfl) (by kernel_rfl) (by kernel_rfl) (fun _ _ _ h => h) (Or.inl ⟨by rfl, fun X hSw => by ((try dsimp only at hSw); go_simp; try with_reducible rfl)⟩) hHeld ?_
  try simp only [Act.put, List.getElem_toArray, List.getElem_cons_zero, List.getElem_cons_succ, List.setIfInBounds_toArray, List.set_cons_zero, List.set_cons_succ]
  refine wpAnyH_take (i := 21) rfl (by kernel_rfl) (by kernel_rfl) (by kernel_rfl) (fun _ _ _ h => h) (Or.inl ⟨by rfl, fun X hSw => by ((try dsimp only at hSw); go_simp; try with_reducible rfl)⟩) hHeld ?_
  try simp only [Act.put, List.getElem_toArray, List.getElem_cons_zero, List.getElem_cons_succ, List.setIfInBounds_toArray, List.set_cons_zero, List.set_cons_succ]
  refine wpAnyH_take (i := 22) rfl (by kernel_rfl) (by kernel_rfl) (by kernel_rfl) (fun _ _ _ h => h) (Or.inl ⟨by rfl, fun X hSw => by ((try dsimp only at hSw); go_simp; try with_reducible rfl)⟩) hHeld ?_
  try simp only [Act.put, List.getElem_toArray, List.getElem_cons_zero, List.getElem_cons_succ, List.setIfInBounds_toArray, List.set_cons_zero, List.set_cons_succ]
  refine wpAnyH_take (i := 23) rfl (by kernel_rfl) (by kernel_rfl) (by kernel_rfl) (fun _ _ _ h => h) (Or.inl ⟨by rfl, fun X hSw => by ((try dsimp only at hSw); go_simp; try with_reducible rfl)⟩) hHeld ?_
  try simp only [Act.put, List.getElem_toArray, List.getElem_cons_zero, List.getElem_cons_succ, List.setIfInBounds_toArray, List.set_cons_zero, List.set_cons_succ]
  refine wpAnyH_take (i := 24) rfl (by kernel_rfl) (by kernel_rfl) (by kernel_rfl) (fun _ _ _ h => h) (Or.inl ⟨by rfl, fun X hSw => by ((try dsimp only at hSw); go_simp; try with_reducible rfl)⟩) hHeld ?_
  try simp only [Act.put, List.getElem_toArray, List.getElem_cons_zero, List.getElem_cons_succ, List.setIfInBounds_toArray, List.set_cons_zero, List.set_cons_succ]
  refine wpAnyH_take (i := 26) rfl (by kernel_rfl) (by kernel_rfl) (by kernel_rfl) (fun _ _ _ h => h) (Or.inl ⟨by rfl, fun X hSw => by ((try dsimp only at hSw); go_simp; try with_reducible rfl)⟩) hHeld ?_
  try simp only [Act.put, List.getElem_toArray, List.getElem_cons_zero, List.getElem_cons_succ, List.setIfInBounds_toArray, List.set_cons_zero, List.set_cons_succ]
  refine wpAnyH_take (i := 27) rfl (by kernel_rfl) (by kernel_rfl) (by kernel_rfl) (fun _ _ _ h => h) (Or.inl ⟨by rfl, fun X hSw => by ((try dsimp only at hSw); go_simp; try with_reducible rfl)⟩) hHeld ?_
  try simp only [Act.put, List.getElem_toArray, List.getElem_cons_zero, List.getElem_cons_succ, List.setIfInBounds_toArray, List.set_cons_zero, List.set_cons_succ]
  refine wpAnyH_take (i := 28) rfl (by kernel_rfl) (by kernel_rfl) (by kernel_rfl) (fun _ _ _ h => h) (Or.inl ⟨by rfl, fun X hSw => by ((try dsimp only at hSw); go_simp; try with_reducible rfl)⟩) hHeld ?_
  try simp only [Act.put, List.getElem_toArray, List.getElem_cons_zero, List.getElem_cons_succ, List.setIfInBounds_toArray, List.set_cons_zero, List.set_cons_succ]
  refine wpAnyH_ready (rs := [25]) (by kernel_rfl) (by simp) ?_
  refine AllReadyH.cons rfl (fun K hK => ?_) AllReadyH.nil
  go_simp
  refine (CT _ bdr).mono ?_
  rintro z v25 ⟨p9, c9, rfl, r9, b9⟩
  go_wp2_with (fail)
  refine hK.out _ _ (trivial) (fun hHeld => ?_)
  clear hK K
  try simp only [Act.put, List.getElem_toArray, List.getElem_cons_zero, List.getElem_cons_succ, List.setIfInBounds_toArray, List.set_cons_zero, List.set_cons_succ]
  refine wpAnyH_ready (rs := [29]) (by kernel_rfl) (by simp) ?_
  refine AllReadyH.cons rfl (fun K hK => ?_) AllReadyH.nil
  go_simp
  refine (CD p9 c9 _ (below_on bdr b9) r9.bytes r9.len).mono ?_
  rintro z v29 ⟨rfl, b10⟩
  go_wp2_with (fail)
  refine hK.out _ _ (trivial) (fun hHeld => ?_)
  clear hK K
  try simp only [Act.put, List.getElem_toArray, List.getElem_cons_zero, List.getElem_cons_succ, List.setIfInBounds_toArray, List.set_cons_zero, List.set_cons_succ]
  refine wpAnyH_take (i := 30) rfl (by kernel_rfl) (by kernel_rfl) (by kernel_rfl) (fun _ _ _ h => h) (Or.inl ⟨by rfl, fun X hSw => by ((try dsimp only at hSw); go_simp; try with_reducible rfl)⟩) hHeld ?_
  try simp only [Act.put, List.getElem_toArray, List.getElem_cons_zero, List.getElem_cons_succ, List.setIfInBounds_toArray, List.set_cons_zero, List.set_cons_succ]
  refine wpAnyH_take (i := 31) rfl (by kernel_rfl) (by kernel_rfl) (by kernel_rfl) (fun _ _ _ h => h) (Or.inl ⟨by rfl, fun X hSw => by ((try dsimp only at hSw); go_simp; try with_reducible rfl)⟩) hHeld ?_
  try simp only [Act.put, List.getElem_toArray, List.getElem_cons_zero, List.getElem_cons_succ, List.setIfInBounds_toArray, List.set_cons_zero, List.set_cons_succ]
  refine wpAnyH_done (by kernel_rfl) ?_ _
  refine NoPanic.normal ?_
  have b11 := below_on (below_on bdr b9) b10
  go_wp2_with (fail)
  refine (CS _ b11).mono ?_
  rintro e w3 ⟨p3, L, c3, rfl, r3, b3⟩
  obtain rfl : L = m := by
    have := r3.len
    rw [HSl.out] at this
    omega
  have b12 := below_on b11 b3
  go_wp2_with (fail)
  go_ret2
  exact ⟨_, _, rfl, r3.low b11.size, b12⟩

theorem specOpen_b (kp np ap bp : Option Addr) (kn kc nn nc an ac bn bc : Nat) (KS NS AS BS : List Int) (w : World) (hK : KS.length = kn) (hN : NS.length = nn) (hA : AS.length = an) (hB : BS.length = bn) (hbc : bn ≤ bc) (ik : BytesIn w kp kn KS) (im : BytesIn w np nn NS) (ia : BytesIn w ap an AS) (ib : BytesIn w bp bn BS)
    (bk : ∀ x ∈ KS, 0 ≤ x ∧ x < 256) (bm : ∀ x ∈ NS, 0 ≤ x ∧ x < 256) (ba : ∀ x ∈ AS, 0 ≤ x ∧ x < 256) (bb : ∀ x ∈ BS, 0 ≤ x ∧ x < 256) (hb : bn ≤ 1048576) :
    Calls Tryd.prog 12 #[.slice kp kn kc, .slice np nn nc, .slice ap an ac, .slice bp bn bc] w fun ex w2 => ∃ p c, ex = .returned (.tuple #[.slice p (openN kn nn an bn KS NS AS BS) c, .bool (openB kn nn an bn KS NS AS BS)]) ∧ See 5 w2 w.heap.size w2.heap.size (.slice p (openN kn nn an bn KS NS AS BS) c) (openN kn nn an bn KS NS AS BS) (openX kn nn an bn KS NS AS BS) ∧ Below w.heap.size w w2 := by
  by_cases hok : OpenOk kn nn an bn KS NS AS BS
  · simp only [openN, openB, openX, if_pos hok, decide_eq_true hok]
    obtain ⟨⟨h1, h2, h3, h4, h5⟩, h6⟩ := hok
    obtain ⟨m, rfl⟩ : ∃ m, bn = m + 16 := ⟨bn - 16, by omega⟩
    subst h1 h2
    obtain ⟨b0, o0, rfl, _⟩ := ib (by omega)
    rw [show m + 16 - 16 = m by omega] at h6 ⊢
    exact (specOpen_yes kp np ap b0 o0 kc nc an ac m bc KS NS AS BS w hK hN hA hB h3 (by omega) hbc ik im ia ib bk bm ba bb h6).mono fun ex w2 ⟨p, c, a1, a2, a3⟩ => ⟨p, c, a1, a2.see, a3⟩
  · simp only [openN, openB, openX, if_neg hok, decide_eq_false hok]
    have key : Calls Tryd.prog 12 #[.slice kp kn kc, .slice np nn nc, .slice ap an ac, .slice bp bn bc] w fun e w' => ∃ p' c', e = .returned (.tuple #[.slice p' 0 c', .bool false]) ∧ Below w.heap.size w w' := by
      by_cases h1 : kn = 32
      · by_cases h2 : nn = 12
        · by_cases h3 : an ≤ 1500
          · by_cases h4 : 0 ≤ (bn : Int) - 16 ∧ (bn : Int) - 16 ≤ 1500
            · obtain ⟨m, rfl⟩ : ∃ m, bn = m + 16 := ⟨bn - 16, by omega⟩
              subst h1 h2
              obtain ⟨b0, o0, rfl, _⟩ := ib (by omega)
              refine specOpen_no5 kp np ap b0 o0 kc nc an ac m bc KS NS AS BS w hK hN hA hB h3 (by omega) hbc ik im ia ib bk bm ba bb fun h => hok ⟨⟨rfl, rfl, h3, by omega, by omega⟩, ?_⟩
              rwa [show m + 16 - 16 = m by omega]
            · exact specOpen_no4 kp np ap bp kn kc nn nc an ac bn bc w (by omega) (by omega) (by omega) h4 (by omega)
          · exact specOpen_no3 kp np ap bp kn kc nn nc an ac bn bc w (by omega) (by omega) (by omega) (by omega)
        · exact specOpen_no2 kp np ap bp kn kc nn nc an ac bn bc w (by omega) (by omega) (by omega)
      · exact specOpen_no1 kp np ap bp kn kc nn nc an ac bn bc w (by omega) (by omega)
    exact key.mono fun ex w2 ⟨p, c, a1, a3⟩ => ⟨p, c, a1, .inl ⟨rfl, rfl⟩, a3⟩
end Go.Proofs.YthjapmdikbmmkaaDoor
