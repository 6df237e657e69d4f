/-
  A part of the proof.
-/
import Derived.Conc.WalkWords
import Derived.Test.YtnpffnhiefgglaaGreatDoorParw14
import Derived.Deep.RegionHeld3
import Derived.BigRegion
import Derived.Test.YtnpffnhiefgglaaGreatDoorParw11
import Derived.Lib.AppendZeros
namespace Go.Proofs.YtnpffnhiefgglaaGreatDoor
open Go.RowKit
set_option maxRecDepth 100000
theorem owns_cap16 {w : World} {base e : Nat} {p : Option Addr} {n c : Nat} {xs : List Value} (h : w.ownsRow base e 1 (.slice p n c) n xs) : n ≤ c := by
  rcases h.2 with ⟨hv, h0⟩ | ⟨g, cap, cur, hv, _, _, hnc, _⟩
  · omega
  · simp only [Value.slice.injEq] at hv
    obtain ⟨_, _, rfl⟩ := hv
    exact hnc
theorem below_drew0 (w : World) : Below w.heap.size w w.drew := (Below.refl _ _).drew
theorem q_store {w wX w9 : World} {e g cap : Nat} {L : List Int} (hs : wX.ownsRow w.heap.size e 1 (.slice (some ⟨g, 0, none⟩) 16 cap) 16 (L.map (Value.int .i64))) (b9 : Below wX.heap.size wX w9) (bel : Below w.heap.size w wX) (k : Nat) (z : Int) :
    (w9.setCell ⟨g, k, none⟩ (.int .i64 z)).ownsRow w.heap.size e 1 (.slice (some ⟨g, 0, none⟩) 16 cap) 16 ((L.set k z).map (Value.int .i64)) ∧ Below w.heap.size w (w9.setCell ⟨g, k, none⟩ (.int .i64 z)) := by
  have st := (owns_below hs b9).stored k (.int .i64 z)
  rw [← List.map_set] at st
  exact ⟨st.1, (below_on bel b9).grown st.2 (below_on bel b9).size (fun i hi => by cases hi; exact (hs.lt g rfl).1)⟩
theorem l1In_is (a b c : Int) (w : World) : Calls Tryz.prog 42 #[.int .i64 a, .int .i64 b, .int .i64 c] w fun e w' => e = .returned (.bool (decide (b ≤ a ∧ a ≤ c))) ∧ w' = w := by
  by_cases h1 : b ≤ a
  · by_cases h2 : a ≤ c
    · rw [decide_eq_true ⟨h1, h2⟩]
      go_enter Tryz.func42, Tryz.ntmps42
      go_wp2
      go_ret
      exact ⟨rfl, rfl⟩
    · rw [decide_eq_false (fun h => h2 h.2)]
      go_enter Tryz.func42, Tryz.ntmps42
      go_wp2
      go_ret
      exact ⟨rfl, rfl⟩
  · rw [decide_eq_false (fun h => h1 h.1)]
    go_enter Tryz.func42, Tryz.ntmps42
    go_wp2
    go_ret
    exact ⟨rfl, rfl⟩
set_option maxHeartbeats 4000000 in
theorem specQuarter_yes (p : Option Addr) (cp : Nat) (L : List Int) (ia ib ic id : Nat) (w : World) (hL : L.length = 16) (h : IntsIn w p 16 L) (ha : ia < 16) (hb : ib < 16) (hc : ic < 16) (hd : id < 16) (nab : ia ≠ ib) (nac : ia ≠ ic) (nad : ia ≠ id) (nbc : ib ≠ ic) (nbd : ib ≠ id) (ncd : ic ≠ id) :
    Calls Tryz.prog 197 #[.slice p 16 cp, .int .i64 (ia : Int), .int .i64 (ib : Int), .int .i64 (ic : Int), .int .i64 (id : Int)] w fun e w' => ∃ p' c', e = .returned (.slice p' 16 c') ∧ OwnI 3 w' w.heap.size w'.heap.size (.slice p' 16 c') 16 (quarterL L ia ib ic id) ∧ Below w.heap.size w w' := by
  obtain ⟨i0, hi, hz0, hz1, hz2⟩ := info_parts infoInt
  have CI : ∀ (k : Nat) (X : World), k < 16 → Calls Tryz.prog 42 #[.int .i64 (k : Int), .int .i64 0, .int .i64 15] X fun e w' => e = .returned (.bool true) ∧ w' = X := fun k X hk => by
    have := l1In_is (k : Int) 0 15 X
    rw [decide_eq_true (by omega)] at this
    exact this
  have q1 : ((ia : Int) == (ib : Int)) = false := beq_eq_false_iff_ne.2 (by omega)
  have q2 : ((ia : Int) == (ic : Int)) = false := beq_eq_false_iff_ne.2 (by omega)
  have q3 : ((ia : Int) == (id : Int)) = false := beq_eq_false_iff_ne.2 (by omega)
  have q4 : ((ib : Int) == (ic : Int)) = false := beq_eq_false_iff_ne.2 (by omega)
  have q5 : ((ib : Int) == (id : Int)) = false := beq_eq_false_iff_ne.2 (by omega)
  have q6 : ((ic : Int) == (id : Int)) = false := beq_eq_false_iff_ne.2 (by omega)
  have hown0 : (w.alloc (.cells #[] 3)).ownsRow w.heap.size 3 1 (.slice (some ⟨w.heap.size, 0, none⟩) 0 0) 0 (([] : List Int).map (Value.int .i64)) := World.ownsRow_made w #[] 0 (Nat.le_refl _) (by unfold maxLen; omega) rfl
  have hb0 : Below w.heap.size w (w.alloc (.cells #[] 3)) := (Below.refl _ _).alloc (Nat.le_refl _) _
  have h1 := in_belowI h hb0
  have HD : Hid (ia ≠ ib ∧ ia ≠ ic ∧ ia ≠ id ∧ ib ≠ ic ∧ ib ≠ id ∧ ic ≠ id) := ⟨nab, nac, nad, nbc, nbd, ncd⟩
  clear nab nac nad nbc nbd ncd
  go_enter Tryz.func197, Tryz.ntmps197
  go_wp2_with (at_builtin; refine list_spreadI hi hz0 hz1 hz2 (.tmp 12) (.tmp 13) 52 Tryz.underlying52 hown0 h1 hL (by omega) (by omega) (by omega) (by simp) (by rfl) (by rfl) (by rfl) (by rfl) ?_; intro g cap w1 ho1 hb1; simp only [Nat.zero_add, List.nil_append] at ho1 ⊢)
  have bel : Below w.heap.size w w1 := hb0.trans hb1
  clear hown0 hb0 h1 hb1 h
  refine (CI ia _ ha).mono ?_
  rintro e w2 ⟨rfl, rfl⟩
  go_wp2_with (fail)
  refine (CI ib _ hb).mono ?_
  rintro e w2 ⟨rfl, rfl⟩
  go_wp2_with (fail)
  refine (CI ic _ hc).mono ?_
  rintro e w2 ⟨rfl, rfl⟩
  go_wp2_with (fail)
  refine (CI id _ hd).mono ?_
  rintro e w2 ⟨rfl, rfl⟩
  clear CI
  obtain ⟨wX, hwX⟩ : ∃ wX, wX = w2 := ⟨_, rfl⟩
  subst hwX
  have hs : wX.ownsRow w.heap.size 3 1 (.slice (some ⟨g, 0, none⟩) 16 cap) 16 ((setQ L ia ib ic id (L.getD ia 0) (L.getD ib 0) (L.getD ic 0) (L.getD id 0)).map (Value.int .i64)) := by
    rw [setQ_self (by omega) (by omega) (by omega) (by omega)]
    exact ho1
  clear ho1
  have hcap := owns_cap16 hs
  obtain ⟨ua, hua⟩ : ∃ ua, ua = L.getD ia 0 := ⟨_, rfl⟩
  obtain ⟨ub, hub⟩ : ∃ ub, ub = L.getD ib 0 := ⟨_, rfl⟩
  obtain ⟨uc, huc⟩ : ∃ uc, uc = L.getD ic 0 := ⟨_, rfl⟩
  obtain ⟨ud, hud⟩ : ∃ ud, ud = L.getD id 0 := ⟨_, rfl⟩
  rw [← hua, ← hub, ← huc, ← hud] at hs
  have HU : Hid (ua = L.getD ia 0 ∧ ub = L.getD ib 0 ∧ uc = L.getD ic 0 ∧ ud = L.getD id 0) := ⟨hua, hub, huc, hud⟩
  clear hua hub huc hud
  have a1 : (ia : Int) < 16 := by omega
  have a2 : (ib : Int) < 16 := by omega
  have a3 : (ic : Int) < 16 := by omega
  have a4 : (id : Int) < 16 := by omega
  have cD : wX.cell? ⟨g, ia, none⟩ = some (.int .i64 ua) := by rw [hs.cellAt ia (by omega), List.getElem?_map, getQ_a (by omega) HD.out.1 HD.out.2.1 HD.out.2.2.1]; rfl
  have cS : wX.cell? ⟨g, ib, none⟩ = some (.int .i64 ub) := by rw [hs.cellAt ib (by omega), List.getElem?_map, getQ_b (by omega) HD.out.2.2.2.1 HD.out.2.2.2.2.1]; rfl
  have HS : Hid (∀ X, Below wX.heap.size wX X → X.cell? ⟨g, ia, none⟩ = some (.int .i64 ua) ∧ X.cell? ⟨g, ib, none⟩ = some (.int .i64 ub)) := fun X hX => ⟨(hX.cell (p := ⟨g, ia, none⟩) (hs.lt g rfl).2).trans cD, (hX.cell (p := ⟨g, ib, none⟩) (hs.lt g rfl).2).trans cS⟩
  go_wp2_with (fail)
  refine wp_region_noPanic ?_
  refine wp_region_K 13 (fun X => X.cell? ⟨g, ia, none⟩ = some (.int .i64 ua) ∧ X.cell? ⟨g, ib, none⟩ = some (.int .i64 ub)) (by kernel_rfl) ?_
  have hHeld := HS.out _ (below_drew0 wX)
  refine anyK_take (i := 0) (v := .slice (some ⟨g, 0, none⟩) 16 cap) rfl rfl (by kernel_rfl) (by kernel_rfl) (by kernel_rfl) (by kernel_rfl) (by kernel_rfl) (fun _ _ _ h => h) (Or.inl ⟨by rfl, fun w hSw => by ((try dsimp only at hSw); go_simp)⟩) hHeld ?_
  walk_nrm
  refine anyK_take (i := 1) (v := .int .i64 (ia : Int)) rfl rfl (by kernel_rfl) (by kernel_rfl) (by kernel_rfl) (by kernel_rfl) (by kernel_rfl) (fun _ _ _ h => h) (Or.inl ⟨by rfl, fun w hSw => by ((try dsimp only at hSw); go_simp)⟩) hHeld ?_
  walk_nrm
  refine anyK_take (i := 2) (v := .slice (some ⟨g, 0, none⟩) 16 cap) rfl rfl (by kernel_rfl) (by kernel_rfl) (by kernel_rfl) (by kernel_rfl) (by kernel_rfl) (fun _ _ _ h => h) (Or.inl ⟨by rfl, fun w hSw => by ((try dsimp only at hSw); go_simp)⟩) hHeld ?_
  walk_nrm
  refine anyK_take (i := 3) (v := .int .i64 (ia : Int)) rfl rfl (by kernel_rfl) (by kernel_rfl) (by kernel_rfl) (by kernel_rfl) (by kernel_rfl) (fun _ _ _ h => h) (Or.inl ⟨by rfl, fun w hSw => by ((try dsimp only at hSw); go_simp)⟩) hHeld ?_
  walk_nrm
  refine anyK_take (i := 4) (v := .pointer (some ⟨g, ia, none⟩)) rfl rfl (by kernel_rfl) (by kernel_rfl) (by kernel_rfl) (by kernel_rfl) (by kernel_rfl) (fun _ _ _ h => h) (Or.inl ⟨by rfl, fun w hSw => by ((try dsimp only at hSw); go_simp)⟩) hHeld ?_
  walk_nrm
  refine anyK_take (i := 5) (v := .int .i64 ua) rfl rfl (by kernel_rfl) (by kernel_rfl) (by kernel_rfl) (by kernel_rfl) (by kernel_rfl) (fun _ _ _ h => h) (Or.inl ⟨by rfl, fun w hSw => by (obtain ⟨hSw1, hSw2⟩ := hSw; go_simp)⟩) hHeld ?_
  walk_nrm
  refine anyK_take (i := 6) (v := .slice (some ⟨g, 0, none⟩) 16 cap) rfl rfl (by kernel_rfl) (by kernel_rfl) (by kernel_rfl) (by kernel_rfl) (by kernel_rfl) (fun _ _ _ h => h) (Or.inl ⟨by rfl, fun w hSw => by ((try dsimp only at hSw); go_simp)⟩) hHeld ?_
  walk_nrm
  refine anyK_take (i := 7) (v := .int .i64 (ib : Int)) rfl rfl (by kernel_rfl) (by kernel_rfl) (by kernel_rfl) (by kernel_rfl) (by kernel_rfl) (fun _ _ _ h => h) (Or.inl ⟨by rfl, fun w hSw => by ((try dsimp only at hSw); go_simp)⟩) hHeld ?_
  walk_nrm
  refine anyK_take (i := 8) (v := .pointer (some ⟨g, ib, none⟩)) rfl rfl (by kernel_rfl) (by kernel_rfl) (by kernel_rfl) (by kernel_rfl) (by kernel_rfl) (fun _ _ _ h => h) (Or.inl ⟨by rfl, fun w hSw => by ((try dsimp only at hSw); go_simp)⟩) hHeld ?_
  walk_nrm
  refine anyK_take (i := 9) (v := .int .i64 ub) rfl rfl (by kernel_rfl) (by kernel_rfl) (by kernel_rfl) (by kernel_rfl) (by kernel_rfl) (fun _ _ _ h => h) (Or.inl ⟨by rfl, fun w hSw => by (obtain ⟨hSw1, hSw2⟩ := hSw; go_simp)⟩) hHeld ?_
  walk_nrm
  refine anyK_take (i := 10) (v := .int .i64 (IntKind.i64.wrap (ua + ub))) rfl rfl (by kernel_rfl) (by kernel_rfl) (by kernel_rfl) (by kernel_rfl) (by kernel_rfl) (fun _ _ _ h => h) (Or.inl ⟨by rfl, fun w hSw => by ((try dsimp only at hSw); go_simp)⟩) hHeld ?_
  walk_nrm
  refine anyK_one (i := 11) (by kernel_rfl) rfl (fun K hK => ?_)
  go_simp
  refine (specWord_any _ _).mono ?_
  rintro e w9 ⟨rfl, b9'⟩
  have b9 := below_on (below_drew0 wX) b9'
  go_wp2_with (fail)
  refine hK.out _ _ (fun _ => HS.out _ b9) ?_
  clear hK K
  have hHeld9 := HS.out _ b9
  refine anyK_take (i := 12) (v := .pointer (some ⟨g, ia, none⟩)) rfl rfl (by kernel_rfl) (by kernel_rfl) (by kernel_rfl) (by kernel_rfl) (by kernel_rfl) (fun _ _ _ h => h) (Or.inl ⟨by rfl, fun w hSw => by ((try dsimp only at hSw); go_simp)⟩) hHeld9 ?_
  walk_nrm
  have cw9 := hHeld9.1
  have fz9 := (owns_below hs b9).frozenAt ia
  have st := q_store hs b9 bel ia (IntKind.i64.wrap (ua + ub) % 4294967296)
  rw [setQ_a HD.out.1 HD.out.2.1 HD.out.2.2.1] at st
  refine anyK_one (i := 13) (by kernel_rfl) rfl (fun K hK => ?_)
  go_simp
  refine hK.out _ _ (fun h => by cases h) ?_
  clear hK K
  refine anyK_done (by kernel_rfl) ?_ _
  refine NoPanic.normal ?_
  obtain ⟨hsN, belN⟩ := st
  clear hs bel HS cD cS b9 b9' hHeld hHeld9 cw9 fz9
  generalize w9.setCell ⟨g, ia, none⟩ (.int .i64 (IntKind.i64.wrap (ua + ub) % 4294967296)) = wc at hsN belN ⊢
  obtain ⟨v1, e1⟩ : ∃ v1 : Nat, (IntKind.i64.wrap (ua + ub) % 4294967296) = (v1 : Int) ∧ v1 = (((wordN ua) + (wordN ub)) % 4294967296) ∧ v1 < 4294967296 := by
    refine ⟨(((wordN ua) + (wordN ub)) % 4294967296), ?_, rfl, ?_⟩
    · rw [wordN_add]
    · exact Nat.mod_lt _ (by decide)
  rw [e1.1] at hsN
  replace e1 : Hid ((IntKind.i64.wrap (ua + ub) % 4294967296) = (v1 : Int) ∧ v1 = (((wordN ua) + (wordN ub)) % 4294967296) ∧ v1 < 4294967296) := e1
  have hs := hsN
  have bel := belN
  clear hsN belN
  obtain ⟨wX, hwX⟩ : ∃ wX, wX = wc := ⟨_, rfl⟩
  subst hwX
  have cD : wX.cell? ⟨g, id, none⟩ = some (.int .i64 ud) := by rw [hs.cellAt id (by omega), List.getElem?_map, getQ_d (by omega)]; rfl
  have cS : wX.cell? ⟨g, ia, none⟩ = some (.int .i64 (v1 : Int)) := by rw [hs.cellAt ia (by omega), List.getElem?_map, getQ_a (by omega) HD.out.1 HD.out.2.1 HD.out.2.2.1]; rfl
  have HS : Hid (∀ X, Below wX.heap.size wX X → X.cell? ⟨g, id, none⟩ = some (.int .i64 ud) ∧ X.cell? ⟨g, ia, none⟩ = some (.int .i64 (v1 : Int))) := fun X hX => ⟨(hX.cell (p := ⟨g, id, none⟩) (hs.lt g rfl).2).trans cD, (hX.cell (p := ⟨g, ia, none⟩) (hs.lt g rfl).2).trans cS⟩
  go_wp2_with (fail)
  refine wp_region_noPanic ?_
  refine wp_region_K 13 (fun X => X.cell? ⟨g, id, none⟩ = some (.int .i64 ud) ∧ X.cell? ⟨g, ia, none⟩ = some (.int .i64 (v1 : Int))) (by kernel_rfl) ?_
  have hHeld := HS.out _ (below_drew0 wX)
  refine anyK_take (i := 0) (v := .slice (some ⟨g, 0, none⟩) 16 cap) rfl rfl (by kernel_rfl) (by kernel_rfl) (by kernel_rfl) (by kernel_rfl) (by kernel_rfl) (fun _ _ _ h => h) (Or.inl ⟨by rfl, fun w hSw => by ((try dsimp only at hSw); go_simp)⟩) hHeld ?_
  walk_nrm
  refine anyK_take (i := 1) (v := .int .i64 (id : Int)) rfl rfl (by kernel_rfl) (by kernel_rfl) (by kernel_rfl) (by kernel_rfl) (by kernel_rfl) (fun _ _ _ h => h) (Or.inl ⟨by rfl, fun w hSw => by ((try dsimp only at hSw); go_simp)⟩) hHeld ?_
  walk_nrm
  refine anyK_take (i := 2) (v := .slice (some ⟨g, 0, none⟩) 16 cap) rfl rfl (by kernel_rfl) (by kernel_rfl) (by kernel_rfl) (by kernel_rfl) (by kernel_rfl) (fun _ _ _ h => h) (Or.inl ⟨by rfl, fun w hSw => by ((try dsimp only at hSw); go_simp)⟩) hHeld ?_
  walk_nrm
  refine anyK_take (i := 3) (v := .int .i64 (id : Int)) rfl rfl (by kernel_rfl) (by kernel_rfl) (by kernel_rfl) (by kernel_rfl) (by kernel_rfl) (fun _ _ _ h => h) (Or.inl ⟨by rfl, fun w hSw => by ((try dsimp only at hSw); go_simp)⟩) hHeld ?_
  walk_nrm
  refine anyK_take (i := 4) (v := .pointer (some ⟨g, id, none⟩)) rfl rfl (by kernel_rfl) (by kernel_rfl) (by kernel_rfl) (by kernel_rfl) (by kernel_rfl) (fun _ _ _ h => h) (Or.inl ⟨by rfl, fun w hSw => by ((try dsimp only at hSw); go_simp)⟩) hHeld ?_
  walk_nrm
  refine anyK_take (i := 5) (v := .int .i64 ud) rfl rfl (by kernel_rfl) (by kernel_rfl) (by kernel_rfl) (by kernel_rfl) (by kernel_rfl) (fun _ _ _ h => h) (Or.inl ⟨by rfl, fun w hSw => by (obtain ⟨hSw1, hSw2⟩ := hSw; go_simp)⟩) hHeld ?_
  walk_nrm
  refine anyK_take (i := 6) (v := .slice (some ⟨g, 0, none⟩) 16 cap) rfl rfl (by kernel_rfl) (by kernel_rfl) (by kernel_rfl) (by kernel_rfl) (by kernel_rfl) (fun _ _ _ h => h) (Or.inl ⟨by rfl, fun w hSw => by ((try dsimp only at hSw); go_simp)⟩) hHeld ?_
  walk_nrm
  refine anyK_take (i := 7) (v := .int .i64 (ia : Int)) rfl rfl (by kernel_rfl) (by kernel_rfl) (by kernel_rfl) (by kernel_rfl) (by kernel_rfl) (fun _ _ _ h => h) (Or.inl ⟨by rfl, fun w hSw => by ((try dsimp only at hSw); go_simp)⟩) hHeld ?_
  walk_nrm
  refine anyK_take (i := 8) (v := .pointer (some ⟨g, ia, none⟩)) rfl rfl (by kernel_rfl) (by kernel_rfl) (by kernel_rfl) (by kernel_rfl) (by kernel_rfl) (fun _ _ _ h => h) (Or.inl ⟨by rfl, fun w hSw => by ((try dsimp only at hSw); go_simp)⟩) hHeld ?_
  walk_nrm
  refine anyK_take (i := 9) (v := .int .i64 (v1 : Int)) rfl rfl (by kernel_rfl) (by kernel_rfl) (by kernel_rfl) (by kernel_rfl) (by kernel_rfl) (fun _ _ _ h => h) (Or.inl ⟨by rfl, fun w hSw => by (obtain ⟨hSw1, hSw2⟩ := hSw; go_simp)⟩) hHeld ?_
  walk_nrm
  refine anyK_take (i := 10) (v := .int .i64 (bits .xor .i64 ud (v1 : Int))) rfl rfl (by kernel_rfl) (by kernel_rfl) (by kernel_rfl) (by kernel_rfl) (by kernel_rfl) (fun _ _ _ h => h) (Or.inl ⟨by rfl, fun w hSw => by ((try dsimp only at hSw); go_simp)⟩) hHeld ?_
  walk_nrm
  refine anyK_one (i := 11) (by kernel_rfl) rfl (fun K hK => ?_)
  go_simp
  refine (specTurn_any _ _ _).mono ?_
  rintro e w9 ⟨rfl, b9'⟩
  have b9 := below_on (below_drew0 wX) b9'
  go_wp2_with (fail)
  refine hK.out _ _ (fun _ => HS.out _ b9) ?_
  clear hK K
  have hHeld9 := HS.out _ b9
  refine anyK_take (i := 12) (v := .pointer (some ⟨g, id, none⟩)) rfl rfl (by kernel_rfl) (by kernel_rfl) (by kernel_rfl) (by kernel_rfl) (by kernel_rfl) (fun _ _ _ h => h) (Or.inl ⟨by rfl, fun w hSw => by ((try dsimp only at hSw); go_simp)⟩) hHeld9 ?_
  walk_nrm
  have cw9 := hHeld9.1
  have fz9 := (owns_below hs b9).frozenAt id
  have st := q_store hs b9 bel id (turnI (bits .xor .i64 ud (v1 : Int)) 16)
  rw [setQ_d] at st
  refine anyK_one (i := 13) (by kernel_rfl) rfl (fun K hK => ?_)
  go_simp
  refine hK.out _ _ (fun h => by cases h) ?_
  clear hK K
  refine anyK_done (by kernel_rfl) ?_ _
  refine NoPanic.normal ?_
  obtain ⟨hsN, belN⟩ := st
  clear hs bel HS cD cS b9 b9' hHeld hHeld9 cw9 fz9
  generalize w9.setCell ⟨g, id, none⟩ (.int .i64 (turnI (bits .xor .i64 ud (v1 : Int)) 16)) = wc at hsN belN ⊢
  obtain ⟨v2, e2⟩ : ∃ v2 : Nat, (turnI (bits .xor .i64 ud (v1 : Int)) 16) = (v2 : Int) ∧ v2 = (turnN ((wordN ud) ^^^ v1) 16) ∧ v2 < 4294967296 := by
    refine ⟨(turnN ((wordN ud) ^^^ v1) 16), ?_, rfl, ?_⟩
    · rw [turn_xor, wordN_nat e1.out.2.2]
      rfl
    · exact turn_lt (Nat.xor_lt_two_pow (n := 32) (wordN_lt _) e1.out.2.2) (by decide)
  rw [e2.1] at hsN
  replace e2 : Hid ((turnI (bits .xor .i64 ud (v1 : Int)) 16) = (v2 : Int) ∧ v2 = (turnN ((wordN ud) ^^^ v1) 16) ∧ v2 < 4294967296) := e2
  have hs := hsN
  have bel := belN
  clear hsN belN
  obtain ⟨wX, hwX⟩ : ∃ wX, wX = wc := ⟨_, rfl⟩
  subst hwX
  have cD : wX.cell? ⟨g, ic, none⟩ = some (.int .i64 uc) := by rw [hs.cellAt ic (by omega), List.getElem?_map, getQ_c (by omega) HD.out.2.2.2.2.2]; rfl
  have cS : wX.cell? ⟨g, id, none⟩ = some (.int .i64 (v2 : Int)) := by rw [hs.cellAt id (by omega), List.getElem?_map, getQ_d (by omega)]; rfl
  have HS : Hid (∀ X, Below wX.heap.size wX X → X.cell? ⟨g, ic, none⟩ = some (.int .i64 uc) ∧ X.cell? ⟨g, id, none⟩ = some (.int .i64 (v2 : Int))) := fun X hX => ⟨(hX.cell (p := ⟨g, ic, none⟩) (hs.lt g rfl).2).trans cD, (hX.cell (p := ⟨g, id, none⟩) (hs.lt g rfl).2).trans cS⟩
  go_wp2_with (fail)
  refine wp_region_noPanic ?_
  refine wp_region_K 13 (fun X => X.cell? ⟨g, ic, none⟩ = some (.int .i64 uc) ∧ X.cell? ⟨g, id, none⟩ = some (.int .i64 (v2 : Int))) (by kernel_rfl) ?_
  have hHeld := HS.out _ (below_drew0 wX)
  refine anyK_take (i := 0) (v := .slice (some ⟨g, 0, none⟩) 16 cap) rfl rfl (by kernel_rfl) (by kernel_rfl) (by kernel_rfl) (by kernel_rfl) (by kernel_rfl) (fun _ _ _ h => h) (Or.inl ⟨by rfl, fun w hSw => by ((try dsimp only at hSw); go_simp)⟩) hHeld ?_
  walk_nrm
  refine anyK_take (i := 1) (v := .int .i64 (ic : Int)) rfl rfl (by kernel_rfl) (by kernel_rfl) (by kernel_rfl) (by kernel_rfl) (by kernel_rfl) (fun _ _ _ h => h) (Or.inl ⟨by rfl, fun w hSw => by ((try dsimp only at hSw); go_simp)⟩) hHeld ?_
  walk_nrm
  refine anyK_take (i := 2) (v := .slice (some ⟨g, 0, none⟩) 16 cap) rfl rfl (by kernel_rfl) (by kernel_rfl) (by kernel_rfl) (by kernel_rfl) (by kernel_rfl) (fun _ _ _ h => h) (Or.inl ⟨by rfl, fun w hSw => by ((try dsimp only at hSw); go_simp)⟩) hHeld ?_
  walk_nrm
  refine anyK_take (i := 3) (v := .int .i64 (ic : Int)) rfl rfl (by kernel_rfl) (by kernel_rfl) (by kernel_rfl) (by kernel_rfl) (by kernel_rfl) (fun _ _ _ h => h) (Or.inl ⟨by rfl, fun w hSw => by ((try dsimp only at hSw); go_simp)⟩) hHeld ?_
  walk_nrm
  refine anyK_take (i := 4) (v := .pointer (some ⟨g, ic, none⟩)) rfl rfl (by kernel_rfl) (by kernel_rfl) (by kernel_rfl) (by kernel_rfl) (by kernel_rfl) (fun _ _ _ h => h) (Or.inl ⟨by rfl, fun w hSw => by ((try dsimp only at hSw); go_simp)⟩) hHeld ?_
  walk_nrm
  refine anyK_take (i := 5) (v := .int .i64 uc) rfl rfl (by kernel_rfl) (by kernel_rfl) (by kernel_rfl) (by kernel_rfl) (by kernel_rfl) (fun _ _ _ h => h) (Or.inl ⟨by rfl, fun w hSw => by (obtain ⟨hSw1, hSw2⟩ := hSw; go_simp)⟩) hHeld ?_
  walk_nrm
  refine anyK_take (i := 6) (v := .slice (some ⟨g, 0, none⟩) 16 cap) rfl rfl (by kernel_rfl) (by kernel_rfl) (by kernel_rfl) (by kernel_rfl) (by kernel_rfl) (fun _ _ _ h => h) (Or.inl ⟨by rfl, fun w hSw => by ((try dsimp only at hSw); go_simp)⟩) hHeld ?_
  walk_nrm
  refine anyK_take (i := 7) (v := .int .i64 (id : Int)) rfl rfl (by kernel_rfl) (by kernel_rfl) (by kernel_rfl) (by kernel_rfl) (by kernel_rfl) (fun _ _ _ h => h) (Or.inl ⟨by rfl, fun w hSw => by ((try dsimp only at hSw); go_simp)⟩) hHeld ?_
  walk_nrm
  refine anyK_take (i := 8) (v := .pointer (some ⟨g, id, none⟩)) rfl rfl (by kernel_rfl) (by kernel_rfl) (by kernel_rfl) (by kernel_rfl) (by kernel_rfl) (fun _ _ _ h => h) (Or.inl ⟨by rfl, fun w hSw => by ((try dsimp only at hSw); go_simp)⟩) hHeld ?_
  walk_nrm
  refine anyK_take (i := 9) (v := .int .i64 (v2 : Int)) rfl rfl (by kernel_rfl) (by kernel_rfl) (by kernel_rfl) (by kernel_rfl) (by kernel_rfl) (fun _ _ _ h => h) (Or.inl ⟨by rfl, fun w hSw => by (obtain ⟨hSw1, hSw2⟩ := hSw; go_simp)⟩) hHeld ?_
  walk_nrm
  refine anyK_take (i := 10) (v := .int .i64 (IntKind.i64.wrap (uc + (v2 : Int)))) rfl rfl (by kernel_rfl) (by kernel_rfl) (by kernel_rfl) (by kernel_rfl) (by kernel_rfl) (fun _ _ _ h => h) (Or.inl ⟨by rfl, fun w hSw => by ((try dsimp only at hSw); go_simp)⟩) hHeld ?_
  walk_nrm
  refine anyK_one (i := 11) (by kernel_rfl) rfl (fun K hK => ?_)
  go_simp
  refine (specWord_any _ _).mono ?_
  rintro e w9 ⟨rfl, b9'⟩
  have b9 := below_on (below_drew0 wX) b9'
  go_wp2_with (fail)
  refine hK.out _ _ (fun _ => HS.out _ b9) ?_
  clear hK K
  have hHeld9 := HS.out _ b9
  refine anyK_take (i := 12) (v := .pointer (some ⟨g, ic, none⟩)) rfl rfl (by kernel_rfl) (by kernel_rfl) (by kernel_rfl) (by kernel_rfl) (by kernel_rfl) (fun _ _ _ h => h) (Or.inl ⟨by rfl, fun w hSw => by ((try dsimp only at hSw); go_simp)⟩) hHeld9 ?_
  walk_nrm
  have cw9 := hHeld9.1
  have fz9 := (owns_below hs b9).frozenAt ic
  have st := q_store hs b9 bel ic (IntKind.i64.wrap (uc + (v2 : Int)) % 4294967296)
  rw [setQ_c HD.out.2.2.2.2.2] at st
  refine anyK_one (i := 13) (by kernel_rfl) rfl (fun K hK => ?_)
  go_simp
  refine hK.out _ _ (fun h => by cases h) ?_
  clear hK K
  refine anyK_done (by kernel_rfl) ?_ _
  refine NoPanic.normal ?_
  obtain ⟨hsN, belN⟩ := st
  clear hs bel HS cD cS b9 b9' hHeld hHeld9 cw9 fz9
  generalize w9.setCell ⟨g, ic, none⟩ (.int .i64 (IntKind.i64.wrap (uc + (v2 : Int)) % 4294967296)) = wc at hsN belN ⊢
  obtain ⟨v3, e3⟩ : ∃ v3 : Nat, (IntKind.i64.wrap (uc + (v2 : Int)) % 4294967296) = (v3 : Int) ∧ v3 = (((wordN uc) + v2) % 4294967296) ∧ v3 < 4294967296 := by
    refine ⟨(((wordN uc) + v2) % 4294967296), ?_, rfl, ?_⟩
    · rw [wordN_add, wordN_nat e2.out.2.2]
    · exact Nat.mod_lt _ (by decide)
  rw [e3.1] at hsN
  replace e3 : Hid ((IntKind.i64.wrap (uc + (v2 : Int)) % 4294967296) = (v3 : Int) ∧ v3 = (((wordN uc) + v2) % 4294967296) ∧ v3 < 4294967296) := e3
  have hs := hsN
  have bel := belN
  clear hsN belN
  obtain ⟨wX, hwX⟩ : ∃ wX, wX = wc := ⟨_, rfl⟩
  subst hwX
  have cD : wX.cell? ⟨g, ib, none⟩ = some (.int .i64 ub) := by rw [hs.cellAt ib (by omega), List.getElem?_map, getQ_b (by omega) HD.out.2.2.2.1 HD.out.2.2.2.2.1]; rfl
  have cS : wX.cell? ⟨g, ic, none⟩ = some (.int .i64 (v3 : Int)) := by rw [hs.cellAt ic (by omega), List.getElem?_map, getQ_c (by omega) HD.out.2.2.2.2.2]; rfl
  have HS : Hid (∀ X, Below wX.heap.size wX X → X.cell? ⟨g, ib, none⟩ = some (.int .i64 ub) ∧ X.cell? ⟨g, ic, none⟩ = some (.int .i64 (v3 : Int))) := fun X hX => ⟨(hX.cell (p := ⟨g, ib, none⟩) (hs.lt g rfl).2).trans cD, (hX.cell (p := ⟨g, ic, none⟩) (hs.lt g rfl).2).trans cS⟩
  go_wp2_with (fail)
  refine wp_region_noPanic ?_
  refine wp_region_K 13 (fun X => X.cell? ⟨g, ib, none⟩ = some (.int .i64 ub) ∧ X.cell? ⟨g, ic, none⟩ = some (.int .i64 (v3 : Int))) (by kernel_rfl) ?_
  have hHeld := HS.out _ (below_drew0 wX)
  refine anyK_take (i := 0) (v := .slice (some ⟨g, 0, none⟩) 16 cap) rfl rfl (by kernel_rfl) (by kernel_rfl) (by kernel_rfl) (by kernel_rfl) (by kernel_rfl) (fun _ _ _ h => h) (Or.inl ⟨by rfl, fun w hSw => by ((try dsimp only at hSw); go_simp)⟩) hHeld ?_
  walk_nrm
  refine anyK_take (i := 1) (v := .int .i64 (ib : Int)) rfl rfl (by kernel_rfl) (by kernel_rfl) (by kernel_rfl) (by kernel_rfl) (by kernel_rfl) (fun _ _ _ h => h) (Or.inl ⟨by rfl, fun w hSw => by ((try dsimp only at hSw); go_simp)⟩) hHeld ?_
  walk_nrm
  refine anyK_take (i := 2) (v := .slice (some ⟨g, 0, none⟩) 16 cap) rfl rfl (by kernel_rfl) (by kernel_rfl) (by kernel_rfl) (by kernel_rfl) (by kernel_rfl) (fun _ _ _ h => h) (Or.inl ⟨by rfl, fun w hSw => by ((try dsimp only at hSw); go_simp)⟩) hHeld ?_
  walk_nrm
  refine anyK_take (i := 3) (v := .int .i64 (ib : Int)) rfl rfl (by kernel_rfl) (by kernel_rfl) (by kernel_rfl) (by kernel_rfl) (by kernel_rfl) (fun _ _ _ h => h) (Or.inl ⟨by rfl, fun w hSw => by ((try dsimp only at hSw); go_simp)⟩) hHeld ?_
  walk_nrm
  refine anyK_take (i := 4) (v := .pointer (some ⟨g, ib, none⟩)) rfl rfl (by kernel_rfl) (by kernel_rfl) (by kernel_rfl) (by kernel_rfl) (by kernel_rfl) (fun _ _ _ h => h) (Or.inl ⟨by rfl, fun w hSw => by ((try dsimp only at hSw); go_simp)⟩) hHeld ?_
  walk_nrm
  refine anyK_take (i := 5) (v := .int .i64 ub) rfl rfl (by kernel_rfl) (by kernel_rfl) (by kernel_rfl) (by kernel_rfl) (by kernel_rfl) (fun _ _ _ h => h) (Or.inl ⟨by rfl, fun w hSw => by (obtain ⟨hSw1, hSw2⟩ := hSw; go_simp)⟩) hHeld ?_
  walk_nrm
  refine anyK_take (i := 6) (v := .slice (some ⟨g, 0, none⟩) 16 cap) rfl rfl (by kernel_rfl) (by kernel_rfl) (by kernel_rfl) (by kernel_rfl) (by kernel_rfl) (fun _ _ _ h => h) (Or.inl ⟨by rfl, fun w hSw => by ((try dsimp only at hSw); go_simp)⟩) hHeld ?_
  walk_nrm
  refine anyK_take (i := 7) (v := .int .i64 (ic : Int)) rfl rfl (by kernel_rfl) (by kernel_rfl) (by kernel_rfl) (by kernel_rfl) (by kernel_rfl) (fun _ _ _ h => h) (Or.inl ⟨by rfl, fun w hSw => by ((try dsimp only at hSw); go_simp)⟩) hHeld ?_
  walk_nrm
  refine anyK_take (i := 8) (v := .pointer (some ⟨g, ic, none⟩)) rfl rfl (by kernel_rfl) (by kernel_rfl) (by kernel_rfl) (by kernel_rfl) (by kernel_rfl) (fun _ _ _ h => h) (Or.inl ⟨by rfl, fun w hSw => by ((try dsimp only at hSw); go_simp)⟩) hHeld ?_
  walk_nrm
  refine anyK_take (i := 9) (v := .int .i64 (v3 : Int)) rfl rfl (by kernel_rfl) (by kernel_rfl) (by kernel_rfl) (by kernel_rfl) (by kernel_rfl) (fun _ _ _ h => h) (Or.inl ⟨by rfl, fun w hSw => by (obtain ⟨hSw1, hSw2⟩ := hSw; go_simp)⟩) hHeld ?_
  walk_nrm
  refine anyK_take (i := 10) (v := .int .i64 (bits .xor .i64 ub (v3 : Int))) rfl rfl (by kernel_rfl) (by kernel_rfl) (by kernel_rfl) (by kernel_rfl) (by kernel_rfl) (fun _ _ _ h => h) (Or.inl ⟨by rfl, fun w hSw => by ((try dsimp only at hSw); go_simp)⟩) hHeld ?_
  walk_nrm
  refine anyK_one (i := 11) (by kernel_rfl) rfl (fun K hK => ?_)
  go_simp
  refine (specTurn_any _ _ _).mono ?_
  rintro e w9 ⟨rfl, b9'⟩
  have b9 := below_on (below_drew0 wX) b9'
  go_wp2_with (fail)
  refine hK.out _ _ (fun _ => HS.out _ b9) ?_
  clear hK K
  have hHeld9 := HS.out _ b9
  refine anyK_take (i := 12) (v := .pointer (some ⟨g, ib, none⟩)) rfl rfl (by kernel_rfl) (by kernel_rfl) (by kernel_rfl) (by kernel_rfl) (by kernel_rfl) (fun _ _ _ h => h) (Or.inl ⟨by rfl, fun w hSw => by ((try dsimp only at hSw); go_simp)⟩) hHeld9 ?_
  walk_nrm
  have cw9 := hHeld9.1
  have fz9 := (owns_below hs b9).frozenAt ib
  have st := q_store hs b9 bel ib (turnI (bits .xor .i64 ub (v3 : Int)) 12)
  rw [setQ_b HD.out.2.2.2.1 HD.out.2.2.2.2.1] at st
  refine anyK_one (i := 13) (by kernel_rfl) rfl (fun K hK => ?_)
  go_simp
  refine hK.out _ _ (fun h => by cases h) ?_
  clear hK K
  refine anyK_done (by kernel_rfl) ?_ _
  refine NoPanic.normal ?_
  obtain ⟨hsN, belN⟩ := st
  clear hs bel HS cD cS b9 b9' hHeld hHeld9 cw9 fz9
  generalize w9.setCell ⟨g, ib, none⟩ (.int .i64 (turnI (bits .xor .i64 ub (v3 : Int)) 12)) = wc at hsN belN ⊢
  obtain ⟨v4, e4⟩ : ∃ v4 : Nat, (turnI (bits .xor .i64 ub (v3 : Int)) 12) = (v4 : Int) ∧ v4 = (turnN ((wordN ub) ^^^ v3) 12) ∧ v4 < 4294967296 := by
    refine ⟨(turnN ((wordN ub) ^^^ v3) 12), ?_, rfl, ?_⟩
    · rw [turn_xor, wordN_nat e3.out.2.2]
      rfl
    · exact turn_lt (Nat.xor_lt_two_pow (n := 32) (wordN_lt _) e3.out.2.2) (by decide)
  rw [e4.1] at hsN
  replace e4 : Hid ((turnI (bits .xor .i64 ub (v3 : Int)) 12) = (v4 : Int) ∧ v4 = (turnN ((wordN ub) ^^^ v3) 12) ∧ v4 < 4294967296) := e4
  have hs := hsN
  have bel := belN
  clear hsN belN
  obtain ⟨wX, hwX⟩ : ∃ wX, wX = wc := ⟨_, rfl⟩
  subst hwX
  have cD : wX.cell? ⟨g, ia, none⟩ = some (.int .i64 (v1 : Int)) := by rw [hs.cellAt ia (by omega), List.getElem?_map, getQ_a (by omega) HD.out.1 HD.out.2.1 HD.out.2.2.1]; rfl
  have cS : wX.cell? ⟨g, ib, none⟩ = some (.int .i64 (v4 : Int)) := by rw [hs.cellAt ib (by omega), List.getElem?_map, getQ_b (by omega) HD.out.2.2.2.1 HD.out.2.2.2.2.1]; rfl
  have HS : Hid (∀ X, Below wX.heap.size wX X → X.cell? ⟨g, ia, none⟩ = some (.int .i64 (v1 : Int)) ∧ X.cell? ⟨g, ib, none⟩ = some (.int .i64 (v4 : Int))) := fun X hX => ⟨(hX.cell (p := ⟨g, ia, none⟩) (hs.lt g rfl).2).trans cD, (hX.cell (p := ⟨g, ib, none⟩) (hs.lt g rfl).2).trans cS⟩
  go_wp2_with (fail)
  refine wp_region_noPanic ?_
  refine wp_region_K 13 (fun X => X.cell? ⟨g, ia, none⟩ = some (.int .i64 (v1 : Int)) ∧ X.cell? ⟨g, ib, none⟩ = some (.int .i64 (v4 : Int))) (by kernel_rfl) ?_
  have hHeld := HS.out _ (below_drew0 wX)
  refine anyK_take (i := 0) (v := .slice (some ⟨g, 0, none⟩) 16 cap) rfl rfl (by kernel_rfl) (by kernel_rfl) (by kernel_rfl) (by kernel_rfl) (by kernel_rfl) (fun _ _ _ h => h) (Or.inl ⟨by rfl, fun w hSw => by ((try dsimp only at hSw); go_simp)⟩) hHeld ?_
  walk_nrm
  refine anyK_take (i := 1) (v := .int .i64 (ia : Int)) rfl rfl (by kernel_rfl) (by kernel_rfl) (by kernel_rfl) (by kernel_rfl) (by kernel_rfl) (fun _ _ _ h => h) (Or.inl ⟨by rfl, fun w hSw => by ((try dsimp only at hSw); go_simp)⟩) hHeld ?_
  walk_nrm
  refine anyK_take (i := 2) (v := .slice (some ⟨g, 0, none⟩) 16 cap) rfl rfl (by kernel_rfl) (by kernel_rfl) (by kernel_rfl) (by kernel_rfl) (by kernel_rfl) (fun _ _ _ h => h) (Or.inl ⟨by rfl, fun w hSw => by ((try dsimp only at hSw); go_simp)⟩) hHeld ?_
  walk_nrm
  refine anyK_take (i := 3) (v := .int .i64 (ia : Int)) rfl rfl (by kernel_rfl) (by kernel_rfl) (by kernel_rfl) (by kernel_rfl) (by kernel_rfl) (fun _ _ _ h => h) (Or.inl ⟨by rfl, fun w hSw => by ((try dsimp only at hSw); go_simp)⟩) hHeld ?_
  walk_nrm
  refine anyK_take (i := 4) (v := .pointer (some ⟨g, ia, none⟩)) rfl rfl (by kernel_rfl) (by kernel_rfl) (by kernel_rfl) (by kernel_rfl) (by kernel_rfl) (fun _ _ _ h => h) (Or.inl ⟨by rfl, fun w hSw => by ((try dsimp only at hSw); go_simp)⟩) hHeld ?_
  walk_nrm
  refine anyK_take (i := 5) (v := .int .i64 (v1 : Int)) rfl rfl (by kernel_rfl) (by kernel_rfl) (by kernel_rfl) (by kernel_rfl) (by kernel_rfl) (fun _ _ _ h => h) (Or.inl ⟨by rfl, fun w hSw => by (obtain ⟨hSw1, hSw2⟩ := hSw; go_simp)⟩) hHeld ?_
  walk_nrm
  refine anyK_take (i := 6) (v := .slice (some ⟨g, 0, none⟩) 16 cap) rfl rfl (by kernel_rfl) (by kernel_rfl) (by kernel_rfl) (by kernel_rfl) (by kernel_rfl) (fun _ _ _ h => h) (Or.inl ⟨by rfl, fun w hSw => by ((try dsimp only at hSw); go_simp)⟩) hHeld ?_
  walk_nrm
  refine anyK_take (i := 7) (v := .int .i64 (ib : Int)) rfl rfl (by kernel_rfl) (by kernel_rfl) (by kernel_rfl) (by kernel_rfl) (by kernel_rfl) (fun _ _ _ h => h) (Or.inl ⟨by rfl, fun w hSw => by ((try dsimp only at hSw); go_simp)⟩) hHeld ?_
  walk_nrm
  refine anyK_take (i := 8) (v := .pointer (some ⟨g, ib, none⟩)) rfl rfl (by kernel_rfl) (by kernel_rfl) (by kernel_rfl) (by kernel_rfl) (by kernel_rfl) (fun _ _ _ h => h) (Or.inl ⟨by rfl, fun w hSw => by ((try dsimp only at hSw); go_simp)⟩) hHeld ?_
  walk_nrm
  refine anyK_take (i := 9) (v := .int .i64 (v4 : Int)) rfl rfl (by kernel_rfl) (by kernel_rfl) (by kernel_rfl) (by kernel_rfl) (by kernel_rfl) (fun _ _ _ h => h) (Or.inl ⟨by rfl, fun w hSw => by (obtain ⟨hSw1, hSw2⟩ := hSw; go_simp)⟩) hHeld ?_
  walk_nrm
  refine anyK_take (i := 10) (v := .int .i64 (IntKind.i64.wrap ((v1 : Int) + (v4 : Int)))) rfl rfl (by kernel_rfl) (by kernel_rfl) (by kernel_rfl) (by kernel_rfl) (by kernel_rfl) (fun _ _ _ h => h) (Or.inl ⟨by rfl, fun w hSw => by ((try dsimp only at hSw); go_simp)⟩) hHeld ?_
  walk_nrm
  refine anyK_one (i := 11) (by kernel_rfl) rfl (fun K hK => ?_)
  go_simp
  refine (specWord_any _ _).mono ?_
  rintro e w9 ⟨rfl, b9'⟩
  have b9 := below_on (below_drew0 wX) b9'
  go_wp2_with (fail)
  refine hK.out _ _ (fun _ => HS.out _ b9) ?_
  clear hK K
  have hHeld9 := HS.out _ b9
  refine anyK_take (i := 12) (v := .pointer (some ⟨g, ia, none⟩)) rfl rfl (by kernel_rfl) (by kernel_rfl) (by kernel_rfl) (by kernel_rfl) (by kernel_rfl) (fun _ _ _ h => h) (Or.inl ⟨by rfl, fun w hSw => by ((try dsimp only at hSw); go_simp)⟩) hHeld9 ?_
  walk_nrm
  have cw9 := hHeld9.1
  have fz9 := (owns_below hs b9).frozenAt ia
  have st := q_store hs b9 bel ia (IntKind.i64.wrap ((v1 : Int) + (v4 : Int)) % 4294967296)
  rw [setQ_a HD.out.1 HD.out.2.1 HD.out.2.2.1] at st
  refine anyK_one (i := 13) (by kernel_rfl) rfl (fun K hK => ?_)
  go_simp
  refine hK.out _ _ (fun h => by cases h) ?_
  clear hK K
  refine anyK_done (by kernel_rfl) ?_ _
  refine NoPanic.normal ?_
  obtain ⟨hsN, belN⟩ := st
  clear hs bel HS cD cS b9 b9' hHeld hHeld9 cw9 fz9
  generalize w9.setCell ⟨g, ia, none⟩ (.int .i64 (IntKind.i64.wrap ((v1 : Int) + (v4 : Int)) % 4294967296)) = wc at hsN belN ⊢
  obtain ⟨v5, e5⟩ : ∃ v5 : Nat, (IntKind.i64.wrap ((v1 : Int) + (v4 : Int)) % 4294967296) = (v5 : Int) ∧ v5 = ((v1 + v4) % 4294967296) ∧ v5 < 4294967296 := by
    refine ⟨((v1 + v4) % 4294967296), ?_, rfl, ?_⟩
    · rw [wordN_add, wordN_nat e1.out.2.2, wordN_nat e4.out.2.2]
    · exact Nat.mod_lt _ (by decide)
  rw [e5.1] at hsN
  replace e5 : Hid ((IntKind.i64.wrap ((v1 : Int) + (v4 : Int)) % 4294967296) = (v5 : Int) ∧ v5 = ((v1 + v4) % 4294967296) ∧ v5 < 4294967296) := e5
  have hs := hsN
  have bel := belN
  clear hsN belN
  obtain ⟨wX, hwX⟩ : ∃ wX, wX = wc := ⟨_, rfl⟩
  subst hwX
  have cD : wX.cell? ⟨g, id, none⟩ = some (.int .i64 (v2 : Int)) := by rw [hs.cellAt id (by omega), List.getElem?_map, getQ_d (by omega)]; rfl
  have cS : wX.cell? ⟨g, ia, none⟩ = some (.int .i64 (v5 : Int)) := by rw [hs.cellAt ia (by omega), List.getElem?_map, getQ_a (by omega) HD.out.1 HD.out.2.1 HD.out.2.2.1]; rfl
  have HS : Hid (∀ X, Below wX.heap.size wX X → X.cell? ⟨g, id, none⟩ = some (.int .i64 (v2 : Int)) ∧ X.cell? ⟨g, ia, none⟩ = some (.int .i64 (v5 : Int))) := fun X hX => ⟨(hX.cell (p := ⟨g, id, none⟩) (hs.lt g rfl).2).trans cD, (hX.cell (p := ⟨g, ia, none⟩) (hs.lt g rfl).2).trans cS⟩
  go_wp2_with (fail)
  refine wp_region_noPanic ?_
  refine wp_region_K 13 (fun X => X.cell? ⟨g, id, none⟩ = some (.int .i64 (v2 : Int)) ∧ X.cell? ⟨g, ia, none⟩ = some (.int .i64 (v5 : Int))) (by kernel_rfl) ?_
  have hHeld := HS.out _ (below_drew0 wX)
  refine anyK_take (i := 0) (v := .slice (some ⟨g, 0, none⟩) 16 cap) rfl rfl (by kernel_rfl) (by kernel_rfl) (by kernel_rfl) (by kernel_rfl) (by kernel_rfl) (fun _ _ _ h => h) (Or.inl ⟨by rfl, fun w hSw => by ((try dsimp only at hSw); go_simp)⟩) hHeld ?_
  walk_nrm
  refine anyK_take (i := 1) (v := .int .i64 (id : Int)) rfl rfl (by kernel_rfl) (by kernel_rfl) (by kernel_rfl) (by kernel_rfl) (by kernel_rfl) (fun _ _ _ h => h) (Or.inl ⟨by rfl, fun w hSw => by ((try dsimp only at hSw); go_simp)⟩) hHeld ?_
  walk_nrm
  refine anyK_take (i := 2) (v := .slice (some ⟨g, 0, none⟩) 16 cap) rfl rfl (by kernel_rfl) (by kernel_rfl) (by kernel_rfl) (by kernel_rfl) (by kernel_rfl) (fun _ _ _ h => h) (Or.inl ⟨by rfl, fun w hSw => by ((try dsimp only at hSw); go_simp)⟩) hHeld ?_
  walk_nrm
  refine anyK_take (i := 3) (v := .int .i64 (id : Int)) rfl rfl (by kernel_rfl) (by kernel_rfl) (by kernel_rfl) (by kernel_rfl) (by kernel_rfl) (fun _ _ _ h => h) (Or.inl ⟨by rfl, fun w hSw => by ((try dsimp only at hSw); go_simp)⟩) hHeld ?_
  walk_nrm
  refine anyK_take (i := 4) (v := .pointer (some ⟨g, id, none⟩)) rfl rfl (by kernel_rfl) (by kernel_rfl) (by kernel_rfl) (by kernel_rfl) (by kernel_rfl) (fun _ _ _ h => h) (Or.inl ⟨by rfl, fun w hSw => by ((try dsimp only at hSw); go_simp)⟩) hHeld ?_
  walk_nrm
  refine anyK_take (i := 5) (v := .int .i64 (v2 : Int)) rfl rfl (by kernel_rfl) (by kernel_rfl) (by kernel_rfl) (by kernel_rfl) (by kernel_rfl) (fun _ _ _ h => h) (Or.inl ⟨by rfl, fun w hSw => by (obtain ⟨hSw1, hSw2⟩ := hSw; go_simp)⟩) hHeld ?_
  walk_nrm
  refine anyK_take (i := 6) (v := .slice (some ⟨g, 0, none⟩) 16 cap) rfl rfl (by kernel_rfl) (by kernel_rfl) (by kernel_rfl) (by kernel_rfl) (by kernel_rfl) (fun _ _ _ h => h) (Or.inl ⟨by rfl, fun w hSw => by ((try dsimp only at hSw); go_simp)⟩) hHeld ?_
  walk_nrm
  refine anyK_take (i := 7) (v := .int .i64 (ia : Int)) rfl rfl (by kernel_rfl) (by kernel_rfl) (by kernel_rfl) (by kernel_rfl) (by kernel_rfl) (fun _ _ _ h => h) (Or.inl ⟨by rfl, fun w hSw => by ((try dsimp only at hSw); go_simp)⟩) hHeld ?_
  walk_nrm
  refine anyK_take (i := 8) (v := .pointer (some ⟨g, ia, none⟩)) rfl rfl (by kernel_rfl) (by kernel_rfl) (by kernel_rfl) (by kernel_rfl) (by kernel_rfl) (fun _ _ _ h => h) (Or.inl ⟨by rfl, fun w hSw => by ((try dsimp only at hSw); go_simp)⟩) hHeld ?_
  walk_nrm
  refine anyK_take (i := 9) (v := .int .i64 (v5 : Int)) rfl rfl (by kernel_rfl) (by kernel_rfl) (by kernel_rfl) (by kernel_rfl) (by kernel_rfl) (fun _ _ _ h => h) (Or.inl ⟨by rfl, fun w hSw => by (obtain ⟨hSw1, hSw2⟩ := hSw; go_simp)⟩) hHeld ?_
  walk_nrm
  refine anyK_take (i := 10) (v := .int .i64 (bits .xor .i64 (v2 : Int) (v5 : Int))) rfl rfl (by kernel_rfl) (by kernel_rfl) (by kernel_rfl) (by kernel_rfl) (by kernel_rfl) (fun _ _ _ h => h) (Or.inl ⟨by rfl, fun w hSw => by ((try dsimp only at hSw); go_simp)⟩) hHeld ?_
  walk_nrm
  refine anyK_one (i := 11) (by kernel_rfl) rfl (fun K hK => ?_)
  go_simp
  refine (specTurn_any _ _ _).mono ?_
  rintro e w9 ⟨rfl, b9'⟩
  have b9 := below_on (below_drew0 wX) b9'
  go_wp2_with (fail)
  refine hK.out _ _ (fun _ => HS.out _ b9) ?_
  clear hK K
  have hHeld9 := HS.out _ b9
  refine anyK_take (i := 12) (v := .pointer (some ⟨g, id, none⟩)) rfl rfl (by kernel_rfl) (by kernel_rfl) (by kernel_rfl) (by kernel_rfl) (by kernel_rfl) (fun _ _ _ h => h) (Or.inl ⟨by rfl, fun w hSw => by ((try dsimp only at hSw); go_simp)⟩) hHeld9 ?_
  walk_nrm
  have cw9 := hHeld9.1
  have fz9 := (owns_below hs b9).frozenAt id
  have st := q_store hs b9 bel id (turnI (bits .xor .i64 (v2 : Int) (v5 : Int)) 8)
  rw [setQ_d] at st
  refine anyK_one (i := 13) (by kernel_rfl) rfl (fun K hK => ?_)
  go_simp
  refine hK.out _ _ (fun h => by cases h) ?_
  clear hK K
  refine anyK_done (by kernel_rfl) ?_ _
  refine NoPanic.normal ?_
  obtain ⟨hsN, belN⟩ := st
  clear hs bel HS cD cS b9 b9' hHeld hHeld9 cw9 fz9
  generalize w9.setCell ⟨g, id, none⟩ (.int .i64 (turnI (bits .xor .i64 (v2 : Int) (v5 : Int)) 8)) = wc at hsN belN ⊢
  obtain ⟨v6, e6⟩ : ∃ v6 : Nat, (turnI (bits .xor .i64 (v2 : Int) (v5 : Int)) 8) = (v6 : Int) ∧ v6 = (turnN (v2 ^^^ v5) 8) ∧ v6 < 4294967296 := by
    refine ⟨(turnN (v2 ^^^ v5) 8), ?_, rfl, ?_⟩
    · rw [turn_xor, wordN_nat e2.out.2.2, wordN_nat e5.out.2.2]
      rfl
    · exact turn_lt (Nat.xor_lt_two_pow (n := 32) e2.out.2.2 e5.out.2.2) (by decide)
  rw [e6.1] at hsN
  replace e6 : Hid ((turnI (bits .xor .i64 (v2 : Int) (v5 : Int)) 8) = (v6 : Int) ∧ v6 = (turnN (v2 ^^^ v5) 8) ∧ v6 < 4294967296) := e6
  have hs := hsN
  have bel := belN
  clear hsN belN
  obtain ⟨wX, hwX⟩ : ∃ wX, wX = wc := ⟨_, rfl⟩
  subst hwX
  have cD : wX.cell? ⟨g, ic, none⟩ = some (.int .i64 (v3 : Int)) := by rw [hs.cellAt ic (by omega), List.getElem?_map, getQ_c (by omega) HD.out.2.2.2.2.2]; rfl
  have cS : wX.cell? ⟨g, id, none⟩ = some (.int .i64 (v6 : Int)) := by rw [hs.cellAt id (by omega), List.getElem?_map, getQ_d (by omega)]; rfl
  have HS : Hid (∀ X, Below wX.heap.size wX X → X.cell? ⟨g, ic, none⟩ = some (.int .i64 (v3 : Int)) ∧ X.cell? ⟨g, id, none⟩ = some (.int .i64 (v6 : Int))) := fun X hX => ⟨(hX.cell (p := ⟨g, ic, none⟩) (hs.lt g rfl).2).trans cD, (hX.cell (p := ⟨g, id, none⟩) (hs.lt g rfl).2).trans cS⟩
  go_wp2_with (fail)
  refine wp_region_noPanic ?_
  refine wp_region_K 13 (fun X => X.cell? ⟨g, ic, none⟩ = some (.int .i64 (v3 : Int)) ∧ X.cell? ⟨g, id, none⟩ = some (.int .i64 (v6 : Int))) (by kernel_rfl) ?_
  have hHeld := HS.out _ (below_drew0 wX)
  refine anyK_take (i := 0) (v := .slice (some ⟨g, 0, none⟩) 16 cap) rfl rfl (by kernel_rfl) (by kernel_rfl) (by kernel_rfl) (by kernel_rfl) (by kernel_rfl) (fun _ _ _ h => h) (Or.inl ⟨by rfl, fun w hSw => by ((try dsimp only at hSw); go_simp)⟩) hHeld ?_
  walk_nrm
  refine anyK_take (i := 1) (v := .int .i64 (ic : Int)) rfl rfl (by kernel_rfl) (by kernel_rfl) (by kernel_rfl) (by kernel_rfl) (by kernel_rfl) (fun _ _ _ h => h) (Or.inl ⟨by rfl, fun w hSw => by ((try dsimp only at hSw); go_simp)⟩) hHeld ?_
  walk_nrm
  refine anyK_take (i := 2) (v := .slice (some ⟨g, 0, none⟩) 16 cap) rfl rfl (by kernel_rfl) (by kernel_rfl) (by kernel_rfl) (by kernel_rfl) (by kernel_rfl) (fun _ _ _ h => h) (Or.inl ⟨by rfl, fun w hSw => by ((try dsimp only at hSw); go_simp)⟩) hHeld ?_
  walk_nrm
  refine anyK_take (i := 3) (v := .int .i64 (ic : Int)) rfl rfl (by kernel_rfl) (by kernel_rfl) (by kernel_rfl) (by kernel_rfl) (by kernel_rfl) (fun _ _ _ h => h) (Or.inl ⟨by rfl, fun w hSw => by ((try dsimp only at hSw); go_simp)⟩) hHeld ?_
  walk_nrm
  refine anyK_take (i := 4) (v := .pointer (some ⟨g, ic, none⟩)) rfl rfl (by kernel_rfl) (by kernel_rfl) (by kernel_rfl) (by kernel_rfl) (by kernel_rfl) (fun _ _ _ h => h) (Or.inl ⟨by rfl, fun w hSw => by ((try dsimp only at hSw); go_simp)⟩) hHeld ?_
  walk_nrm
  refine anyK_take (i := 5) (v := .int .i64 (v3 : Int)) rfl rfl (by kernel_rfl) (by kernel_rfl) (by kernel_rfl) (by kernel_rfl) (by kernel_rfl) (fun _ _ _ h => h) (Or.inl ⟨by rfl, fun w hSw => by (obtain ⟨hSw1, hSw2⟩ := hSw; go_simp)⟩) hHeld ?_
  walk_nrm
  refine anyK_take (i := 6) (v := .slice (some ⟨g, 0, none⟩) 16 cap) rfl rfl (by kernel_rfl) (by kernel_rfl) (by kernel_rfl) (by kernel_rfl) (by kernel_rfl) (fun _ _ _ h => h) (Or.inl ⟨by rfl, fun w hSw => by ((try dsimp only at hSw); go_simp)⟩) hHeld ?_
  walk_nrm
  refine anyK_take (i := 7) (v := .int .i64 (id : Int)) rfl rfl (by kernel_rfl) (by kernel_rfl) (by kernel_rfl) (by kernel_rfl) (by kernel_rfl) (fun _ _ _ h => h) (Or.inl ⟨by rfl, fun w hSw => by ((try dsimp only at hSw); go_simp)⟩) hHeld ?_
  walk_nrm
  refine anyK_take (i := 8) (v := .pointer (some ⟨g, id, none⟩)) rfl rfl (by kernel_rfl) (by kernel_rfl) (by kernel_rfl) (by kernel_rfl) (by kernel_rfl) (fun _ _ _ h => h) (Or.inl ⟨by rfl, fun w hSw => by ((try dsimp only at hSw); go_simp)⟩) hHeld ?_
  walk_nrm
  refine anyK_take (i := 9) (v := .int .i64 (v6 : Int)) rfl rfl (by kernel_rfl) (by kernel_rfl) (by kernel_rfl) (by kernel_rfl) (by kernel_rfl) (fun _ _ _ h => h) (Or.inl ⟨by rfl, fun w hSw => by (obtain ⟨hSw1, hSw2⟩ := hSw; go_simp)⟩) hHeld ?_
  walk_nrm
  refine anyK_take (i := 10) (v := .int .i64 (IntKind.i64.wrap ((v3 : Int) + (v6 : Int)))) rfl rfl (by kernel_rfl) (by kernel_rfl) (by kernel_rfl) (by kernel_rfl) (by kernel_rfl) (fun _ _ _ h => h) (Or.inl ⟨by rfl, fun w hSw => by ((try dsimp only at hSw); go_simp)⟩) hHeld ?_
  walk_nrm
  refine anyK_one (i := 11) (by kernel_rfl) rfl (fun K hK => ?_)
  go_simp
  refine (specWord_any _ _).mono ?_
  rintro e w9 ⟨rfl, b9'⟩
  have b9 := below_on (below_drew0 wX) b9'
  go_wp2_with (fail)
  refine hK.out _ _ (fun _ => HS.out _ b9) ?_
  clear hK K
  have hHeld9 := HS.out _ b9
  refine anyK_take (i := 12) (v := .pointer (some ⟨g, ic, none⟩)) rfl rfl (by kernel_rfl) (by kernel_rfl) (by kernel_rfl) (by kernel_rfl) (by kernel_rfl) (fun _ _ _ h => h) (Or.inl ⟨by rfl, fun w hSw => by ((try dsimp only at hSw); go_simp)⟩) hHeld9 ?_
  walk_nrm
  have cw9 := hHeld9.1
  have fz9 := (owns_below hs b9).frozenAt ic
  have st := q_store hs b9 bel ic (IntKind.i64.wrap ((v3 : Int) + (v6 : Int)) % 4294967296)
  rw [setQ_c HD.out.2.2.2.2.2] at st
  refine anyK_one (i := 13) (by kernel_rfl) rfl (fun K hK => ?_)
  go_simp
  refine hK.out _ _ (fun h => by cases h) ?_
  clear hK K
  refine anyK_done (by kernel_rfl) ?_ _
  refine NoPanic.normal ?_
  obtain ⟨hsN, belN⟩ := st
  clear hs bel HS cD cS b9 b9' hHeld hHeld9 cw9 fz9
  generalize w9.setCell ⟨g, ic, none⟩ (.int .i64 (IntKind.i64.wrap ((v3 : Int) + (v6 : Int)) % 4294967296)) = wc at hsN belN ⊢
  obtain ⟨v7, e7⟩ : ∃ v7 : Nat, (IntKind.i64.wrap ((v3 : Int) + (v6 : Int)) % 4294967296) = (v7 : Int) ∧ v7 = ((v3 + v6) % 4294967296) ∧ v7 < 4294967296 := by
    refine ⟨((v3 + v6) % 4294967296), ?_, rfl, ?_⟩
    · rw [wordN_add, wordN_nat e3.out.2.2, wordN_nat e6.out.2.2]
    · exact Nat.mod_lt _ (by decide)
  rw [e7.1] at hsN
  replace e7 : Hid ((IntKind.i64.wrap ((v3 : Int) + (v6 : Int)) % 4294967296) = (v7 : Int) ∧ v7 = ((v3 + v6) % 4294967296) ∧ v7 < 4294967296) := e7
  have hs := hsN
  have bel := belN
  clear hsN belN
  obtain ⟨wX, hwX⟩ : ∃ wX, wX = wc := ⟨_, rfl⟩
  subst hwX
  have cD : wX.cell? ⟨g, ib, none⟩ = some (.int .i64 (v4 : Int)) := by rw [hs.cellAt ib (by omega), List.getElem?_map, getQ_b (by omega) HD.out.2.2.2.1 HD.out.2.2.2.2.1]; rfl
  have cS : wX.cell? ⟨g, ic, none⟩ = some (.int .i64 (v7 : Int)) := by rw [hs.cellAt ic (by omega), List.getElem?_map, getQ_c (by omega) HD.out.2.2.2.2.2]; rfl
  have HS : Hid (∀ X, Below wX.heap.size wX X → X.cell? ⟨g, ib, none⟩ = some (.int .i64 (v4 : Int)) ∧ X.cell? ⟨g, ic, none⟩ = some (.int .i64 (v7 : Int))) := fun X hX => ⟨(hX.cell (p := ⟨g, ib, none⟩) (hs.lt g rfl).2).trans cD, (hX.cell (p := ⟨g, ic, none⟩) (hs.lt g rfl).2).trans cS⟩
  go_wp2_with (fail)
  refine wp_region_noPanic ?_
  refine wp_region_K 13 (fun X => X.cell? ⟨g, ib, none⟩ = some (.int .i64 (v4 : Int)) ∧ X.cell? ⟨g, ic, none⟩ = some (.int .i64 (v7 : Int))) (by kernel_rfl) ?_
  have hHeld := HS.out _ (below_drew0 wX)
  refine anyK_take (i := 0) (v := .slice (some ⟨g, 0, none⟩) 16 cap) rfl rfl (by kernel_rfl) (by kernel_rfl) (by kernel_rfl) (by kernel_rfl) (by kernel_rfl) (fun _ _ _ h => h) (Or.inl ⟨by rfl, fun w hSw => by ((try dsimp only at hSw); go_simp)⟩) hHeld ?_
  walk_nrm
  refine anyK_take (i := 1) (v := .int .i64 (ib : Int)) rfl rfl (by kernel_rfl) (by kernel_rfl) (by kernel_rfl) (by kernel_rfl) (by kernel_rfl) (fun _ _ _ h => h) (Or.inl ⟨by rfl, fun w hSw => by ((try dsimp only at hSw); go_simp)⟩) hHeld ?_
  walk_nrm
  refine anyK_take (i := 2) (v := .slice (some ⟨g, 0, none⟩) 16 cap) rfl rfl (by kernel_rfl) (by kernel_rfl) (by kernel_rfl) (by kernel_rfl) (by kernel_rfl) (fun _ _ _ h => h) (Or.inl ⟨by rfl, fun w hSw => by ((try dsimp only at hSw); go_simp)⟩) hHeld ?_
  walk_nrm
  refine anyK_take (i := 3) (v := .int .i64 (ib : Int)) rfl rfl (by kernel_rfl) (by kernel_rfl) (by kernel_rfl) (by kernel_rfl) (by kernel_rfl) (fun _ _ _ h => h) (Or.inl ⟨by rfl, fun w hSw => by ((try dsimp only at hSw); go_simp)⟩) hHeld ?_
  walk_nrm
  refine anyK_take (i := 4) (v := .pointer (some ⟨g, ib, none⟩)) rfl rfl (by kernel_rfl) (by kernel_rfl) (by kernel_rfl) (by kernel_rfl) (by kernel_rfl) (fun _ _ _ h => h) (Or.inl ⟨by rfl, fun w hSw => by ((try dsimp only at hSw); go_simp)⟩) hHeld ?_
  walk_nrm
  refine anyK_take (i := 5) (v := .int .i64 (v4 : Int)) rfl rfl (by kernel_rfl) (by kernel_rfl) (by kernel_rfl) (by kernel_rfl) (by kernel_rfl) (fun _ _ _ h => h) (Or.inl ⟨by rfl, fun w hSw => by (obtain ⟨hSw1, hSw2⟩ := hSw; go_simp)⟩) hHeld ?_
  walk_nrm
  refine anyK_take (i := 6) (v := .slice (some ⟨g, 0, none⟩) 16 cap) rfl rfl (by kernel_rfl) (by kernel_rfl) (by kernel_rfl) (by kernel_rfl) (by kernel_rfl) (fun _ _ _ h => h) (Or.inl ⟨by rfl, fun w hSw => by ((try dsimp only at hSw); go_simp)⟩) hHeld ?_
  walk_nrm
  refine anyK_take (i := 7) (v := .int .i64 (ic : Int)) rfl rfl (by kernel_rfl) (by kernel_rfl) (by kernel_rfl) (by kernel_rfl) (by kernel_rfl) (fun _ _ _ h => h) (Or.inl ⟨by rfl, fun w hSw => by ((try dsimp only at hSw); go_simp)⟩) hHeld ?_
  walk_nrm
  refine anyK_take (i := 8) (v := .pointer (some ⟨g, ic, none⟩)) rfl rfl (by kernel_rfl) (by kernel_rfl) (by kernel_rfl) (by kernel_rfl) (by kernel_rfl) (fun _ _ _ h => h) (Or.inl ⟨by rfl, fun w hSw => by ((try dsimp only at hSw); go_simp)⟩) hHeld ?_
  walk_nrm
  refine anyK_take (i := 9) (v := .int .i64 (v7 : Int)) rfl rfl (by kernel_rfl) (by kernel_rfl) (by kernel_rfl) (by kernel_rfl) (by kernel_rfl) (fun _ _ _ h => h) (Or.inl ⟨by rfl, fun w hSw => by (obtain ⟨hSw1, hSw2⟩ := hSw; go_simp)⟩) hHeld ?_
  walk_nrm
  refine anyK_take (i := 10) (v := .int .i64 (bits .xor .i64 (v4 : Int) (v7 : Int))) rfl rfl (by kernel_rfl) (by kernel_rfl) (by kernel_rfl) (by kernel_rfl) (by kernel_rfl) (fun _ _ _ h => h) (Or.inl ⟨by rfl, fun w hSw => by ((try dsimp only at hSw); go_simp)⟩) hHeld ?_
  walk_nrm
  refine anyK_one (i := 11) (by kernel_rfl) rfl (fun K hK => ?_)
  go_simp
  refine (specTurn_any _ _ _).mono ?_
  rintro e w9 ⟨rfl, b9'⟩
  have b9 := below_on (below_drew0 wX) b9'
  go_wp2_with (fail)
  refine hK.out _ _ (fun _ => HS.out _ b9) ?_
  clear hK K
  have hHeld9 := HS.out _ b9
  refine anyK_take (i := 12) (v := .pointer (some ⟨g, ib, none⟩)) rfl rfl (by kernel_rfl) (by kernel_rfl) (by kernel_rfl) (by kernel_rfl) (by kernel_rfl) (fun _ _ _ h => h) (Or.inl ⟨by rfl, fun w hSw => by ((try dsimp only at hSw); go_simp)⟩) hHeld9 ?_
  walk_nrm
  have cw9 := hHeld9.1
  have fz9 := (owns_below hs b9).frozenAt ib
  have st := q_store hs b9 bel ib (turnI (bits .xor .i64 (v4 : Int) (v7 : Int)) 7)
  rw [setQ_b HD.out.2.2.2.1 HD.out.2.2.2.2.1] at st
  refine anyK_one (i := 13) (by kernel_rfl) rfl (fun K hK => ?_)
  go_simp
  refine hK.out _ _ (fun h => by cases h) ?_
  clear hK K
  refine anyK_done (by kernel_rfl) ?_ _
  refine NoPanic.normal ?_
  obtain ⟨hsN, belN⟩ := st
  clear hs bel HS cD cS b9 b9' hHeld hHeld9 cw9 fz9
  generalize w9.setCell ⟨g, ib, none⟩ (.int .i64 (turnI (bits .xor .i64 (v4 : Int) (v7 : Int)) 7)) = wc at hsN belN ⊢
  obtain ⟨v8, e8⟩ : ∃ v8 : Nat, (turnI (bits .xor .i64 (v4 : Int) (v7 : Int)) 7) = (v8 : Int) ∧ v8 = (turnN (v4 ^^^ v7) 7) ∧ v8 < 4294967296 := by
    refine ⟨(turnN (v4 ^^^ v7) 7), ?_, rfl, ?_⟩
    · rw [turn_xor, wordN_nat e4.out.2.2, wordN_nat e7.out.2.2]
      rfl
    · exact turn_lt (Nat.xor_lt_two_pow (n := 32) e4.out.2.2 e7.out.2.2) (by decide)
  rw [e8.1] at hsN
  replace e8 : Hid ((turnI (bits .xor .i64 (v4 : Int) (v7 : Int)) 7) = (v8 : Int) ∧ v8 = (turnN (v4 ^^^ v7) 7) ∧ v8 < 4294967296) := e8
  have hs := hsN
  have bel := belN
  clear hsN belN
  obtain ⟨wX, hwX⟩ : ∃ wX, wX = wc := ⟨_, rfl⟩
  subst hwX
  go_wp2_with (fail)
  go_ret
  have HQ : quarterL L ia ib ic id = setQ L ia ib ic id ((v5 : Int)) ((v8 : Int)) ((v7 : Int)) ((v6 : Int)) := by
    unfold quarterL quarterN
    simp only [← HU.out.1, ← HU.out.2.1, ← HU.out.2.2.1, ← HU.out.2.2.2, ← e1.out.2.1, ← e2.out.2.1, ← e3.out.2.1, ← e4.out.2.1, ← e5.out.2.1, ← e6.out.2.1, ← e7.out.2.1, ← e8.out.2.1]
  rw [← HQ] at hs
  exact ⟨_, _, rfl, .of hs, bel⟩
theorem append_empty {P : Program} (w : World) (t ty e : TypeId) (i : TypeInfo) (ht : P.underlying t = some (.slice e)) (hi : P.info? e = some i) (b : Option Addr) (n cap : Nat) (p : Option Addr) (c : Nat) (h : n ≤ cap) :
    (Builtin.append_ #[t, t] ty #[.slice b n cap, .slice p 0 c]).run P w = .ok (.slice b n cap) w := by
  cases p <;> cases b <;> simp [Builtin.append_, run_underlying ht, sizeOf, typeInfo, hi, Builtin.lenOf, Builtin.firstCells, loadCells, loadCellsFrom, storeCells, h]
theorem owns_cap {w : World} {base e : Nat} {p : Option Addr} {n c : Nat} {xs : List Value} (h : w.ownsRow base e 1 (.slice p n c) n xs) : n ≤ c := by
  rcases h.2 with ⟨hv, h0⟩ | ⟨g, cap, cur, hv, _, _, hnc, _⟩
  · omega
  · simp only [Value.slice.injEq] at hv
    obtain ⟨_, _, rfl⟩ := hv
    exact hnc
section
variable {P : Program} {e : TypeId} {i : TypeInfo} {base n m c : Nat} {wr : World} {q p : Option Addr} {cq : Nat} {xs ys : List Int}
theorem list_spreadA {ops : Array Oper} {rest : List Oper} {o : Oper} {a : Act} {Q : Exit → Act → World → Prop} (hi : P.info? e = some i) (hz : i.zero = some (.int .u8 0)) (hsize : i.size = 1) (hby : i.bytes = 1)
    (s y : Operand) (t : TypeId) (ht : P.underlying t = some (.slice e)) (hown : wr.ownsRow base e 1 (.slice q n cq) n (xs.map (Value.int .u8))) (hin : BytesIn wr p m ys) (hl : ys.length = m) (hm' : m ≤ 1099511627776)
    (hn : n ≤ 1099511627776) (hbase : base ≤ wr.heap.size)
    (hgd : o.guard = none) (ho : o.op = .call { callee := .builtin .append, args := #[s, y], argTypes := #[t, t] }) (hs : a.eval s = .slice q n cq) (hy : a.eval y = .slice p m c)
    (h : ∀ p' cap w', w'.ownsRow base e 1 (.slice p' (n + m) cap) (n + m) ((xs ++ ys).map (Value.int .u8)) → Below base wr w' → wpList P ops Q rest (a.put o.dst (.slice p' (n + m) cap)) w') :
    wpList P ops Q (o :: rest) a wr := by
  rcases Nat.eq_zero_or_pos m with h0 | h0
  · subst h0
    obtain rfl : ys = [] := List.eq_nil_of_length_eq_zero hl
    simp only [List.append_nil, Nat.add_zero] at h
    exact Lib.wpList_append_run wr hgd s y t t ho _ _ hs hy _ _ (append_empty wr t o.type e i ht hi q n cq p c (owns_cap hown)) (h _ _ _ hown (Below.refl _ _))
  · refine list_spread hi hz hsize hby s y t ht hown hin hl h0 hm' hn hbase hgd ho hs hy ?_
    intro g cap w' h1 _ h3
    exact h _ _ _ h1 h3
end
set_option maxHeartbeats 2000000 in
theorem growNil_any (n : Nat) (w : World) (h0 : 0 < n) (hn : n ≤ 1073741824) :
    Calls Tryz.prog 105 #[.slice none 0 0, .int .i64 n] w fun e w' => ∃ p c, e = .returned (.slice p 0 c) ∧ w'.ownsRow w.heap.size 5 1 (.slice p 0 c) 0 (([] : List Int).map (Value.int .u8)) ∧ Below w.heap.size w w' := by
  obtain ⟨i0, hi, hz0, hz1, hz2⟩ := info_parts infoByte
  have h1 : ¬ ((n : Int) < 0) := by omega
  have h4 : (n : Int) > 0 := by omega
  have hrz := fun ty => Lib.run_append_nil_zeros (P := Tryz.prog) w 22 3 ty 5 i0 (.int .u8 0) .i64 .i64 Tryz.underlying22 Tryz.underlying3 hi hz0 n h0 (by omega) (by omega) (by rw [hz2]; omega)
  have hge := grownCap_ge w n 0 5
  have hcm := grownCap_le_maxLen w n 0 5 (by unfold maxLen; omega)
  generalize grownCap w n 0 5 = G at hrz hge hcm
  have hown : (w.drew.alloc (.cells (Builtin.zeroCells (Value.cells (.int .u8 0)) n ++ Builtin.zeroCells (Value.cells (.int .u8 0)) (G - n)) 5)).ownsRow w.heap.size 5 1 (.slice (some ⟨w.heap.size, 0, none⟩) 0 G) 0 (([] : List Int).map (Value.int .u8)) :=
    World.ownsRow_made w.drew _ G (by simp) hcm (by simp [size_zeroCells, Value.cells]; omega)
  have hbel : Below w.heap.size w (w.drew.alloc (.cells (Builtin.zeroCells (Value.cells (.int .u8 0)) n ++ Builtin.zeroCells (Value.cells (.int .u8 0)) (G - n)) 5)) := (Below.refl _ _).drew.alloc (by simp) _
  generalize w.drew.alloc (.cells (Builtin.zeroCells (Value.cells (.int .u8 0)) n ++ Builtin.zeroCells (Value.cells (.int .u8 0)) (G - n)) 5) = w1 at hrz hown hbel
  unfold maxLen at hcm
  go_enter Tryz.func105, Tryz.ntmps105
  go_wp2_with (at_builtin; refine Lib.wpList_append_run _ rfl _ _ _ _ rfl _ _ rfl rfl _ _ (hrz _) ?_)
  all_goals (go_ret; exact ⟨_, _, rfl, hown, hbel⟩)
def sumN (nf : Nat → Nat) : Nat → Nat
  | 0 => 0
  | k + 1 => sumN nf k + nf k
def catL (xf : Nat → List Int) : Nat → List Int
  | 0 => []
  | k + 1 => catL xf k ++ xf k
theorem sumN_le (nf : Nat → Nat) {k m : Nat} (h : k ≤ m) : sumN nf k ≤ sumN nf m := by
  induction m with
  | zero => rw [show k = 0 by omega]; exact Nat.le_refl _
  | succ m ih =>
    by_cases e : k = m + 1
    · rw [e]; exact Nat.le_refl _
    · have := ih (by omega)
      simp only [sumN]
      omega
set_option maxHeartbeats 4000000 in
theorem concat_any (gr m : Nat) (Pf : Nat → Option Addr) (nf cf : Nat → Nat) (xf : Nat → List Int) (w : World) (hm : m ≤ 1000) (hcell : ∀ k, k < m → w.cell? ⟨gr, k, none⟩ = some (.slice (Pf k) (nf k) (cf k)))
    (hlen : ∀ k, k < m → (xf k).length = nf k) (hin : ∀ k, k < m → BytesIn w (Pf k) (nf k) (xf k)) (h0 : 0 < sumN nf m) (hs : sumN nf m ≤ 1073741824) :
    Calls Tryz.prog 68 #[.slice (some ⟨gr, 0, none⟩) m m] w fun e w' => ∃ p c, e = .returned (.slice p (sumN nf m) c) ∧ Own 5 w' w.heap.size w'.heap.size (.slice p (sumN nf m) c) (sumN nf m) (catL xf m) ∧ Below w.heap.size w w' := by
  obtain ⟨i0, hi, hz0, hz1, hz2⟩ := info_parts infoByte
  have HC : Hid (∀ k, k < m → w.cell? ⟨gr, k, none⟩ = some (.slice (Pf k) (nf k) (cf k))) := hcell
  have HL : Hid (∀ k, k < m → (xf k).length = nf k) := hlen
  have HI : Hid (∀ k, k < m → BytesIn w (Pf k) (nf k) (xf k)) := hin
  clear hcell hlen hin
  go_enter Tryz.func68, Tryz.ntmps68
  go_wp2
  go_loop [3, 11] (fun v i => ∃ k s : Nat, k ≤ m ∧ i = .int .i64 k ∧ v = .int .i64 s ∧ Hid (s = sumN nf k)) (fun _ i => m - (intOf i).toNat)
  case atStart => exact ⟨0, 0, by omega, rfl, rfl, rfl⟩
  case round =>
    obtain ⟨k, s, hk, rfl, rfl, hsk⟩ := hrel
    by_cases hlt : k < m
    · have hc := HC.out k hlt
      have hle : s + nf k ≤ 1073741824 := by rw [hsk.out]; exact Nat.le_trans (sumN_le nf (k := k + 1) hlt) hs
      have HN : Hid (s + nf k = sumN nf (k + 1)) := by rw [hsk.out]; rfl
      generalize nf k = n1 at hc hle HN
      generalize Pf k = p1 at hc
      generalize cf k = c1 at hc
      have hneg : ¬ ((s : Int) + (n1 : Int) < 0) := by omega
      go_wp2
      go_round
      case rel => exact ⟨k + 1, s + n1, by omega, by go_num, by go_num, HN⟩
      case measure => simp [intOf]; omega
    · obtain rfl : k = m := by omega
      obtain rfl : s = sumN nf k := hsk.out
      clear hsk
      have HS : Hid (sumN nf k = sumN nf k) := rfl
      generalize hN : sumN nf k = N at h0 hs HS ⊢
      clear HS
      have HNn : Hid (sumN nf k = N) := hN
      clear hN
      have hneg : ¬ ((N : Int) < 0) := by omega
      go_wp2_with (fail)
      refine (growNil_any N _ h0 hs).mono ?_
      rintro e w1 ⟨p1, c1, rfl, ho1, b1⟩
      go_wp2_with (fail)
      go_loopw [6, 27] (fun v i wr => ∃ j s : Nat, j ≤ k ∧ i = .int .i64 j ∧ Hid (s = sumN nf j) ∧ wr.ownsRow w.heap.size 5 1 v s ((catL xf j).map (Value.int .u8)) ∧ Below w.heap.size w wr)
        (fun _ i _ => k - (intOf i).toNat)
      case atStart => exact ⟨0, 0, by omega, rfl, rfl, ho1, b1⟩
      case round =>
        clear ho1 b1
        obtain ⟨j, s, hj, rfl, hsj, hown, hbel⟩ := hrel
        have hsz := hbel.size
        by_cases hlt2 : j < k
        · have hc := HC.out j hlt2
          have hgr : gr < w.heap.size := World.block_lt_of_cell? w ⟨gr, j, none⟩ hc
          have hc2 := (hbel.cell (p := ⟨gr, j, none⟩) hgr).trans hc
          have hle : s + nf j ≤ N := by rw [hsj.out, ← HNn.out]; exact sumN_le nf (k := j + 1) hlt2
          have HN : Hid (s + nf j = sumN nf (j + 1)) := by rw [hsj.out]; rfl
          have hl := HL.out j hlt2
          have hI := HI.out j hlt2
          replace hI : BytesIn wr (Pf j) (nf j) (xf j) := by
            intro hpos
            obtain ⟨bb, oo, e1, e2⟩ := hI hpos
            exact ⟨bb, oo, e1, fun i hi => (hbel.cell (p := ⟨bb, oo + i, none⟩) (World.block_lt_of_cell? w ⟨bb, oo + i, none⟩ (e2 i hi))).trans (e2 i hi)⟩
          have HX : Hid (catL xf j ++ xf j = catL xf (j + 1)) := rfl
          generalize nf j = n1 at hc hc2 hle HN hl hI
          generalize Pf j = p1 at hc hc2 hI
          generalize cf j = c1 at hc hc2
          generalize xf j = y1 at hl hI HX
          obtain ⟨q, cq, hv⟩ := owns_form hown
          subst hv
          clear hc
          go_wp2_with (at_builtin; refine list_spreadA hi hz0 hz1 hz2 (.tmp 31) (.tmp 32) 22 Tryz.underlying22 hown hI hl (by omega) (by omega) hsz (by rfl) (by rfl) (by rfl) (by rfl) ?_; intro p' cap w3 ho3 hb3; rw [HX.out] at ho3)
          go_roundw
          case rel => exact ⟨j + 1, s + n1, by omega, by go_num, HN, ho3, hbel.trans hb3⟩
          case measure => simp [intOf]; omega
        · obtain rfl : j = k := by omega
          obtain rfl : s = N := hsj.out.trans HNn.out
          obtain ⟨q, cq, hv⟩ := owns_form hown
          subst hv
          go_wp2
          go_ret
          rw [HNn.out]
          exact ⟨_, _, rfl, .of hown, hbel⟩
end Go.Proofs.YtnpffnhiefgglaaGreatDoor
namespace Go.Proofs.YtnpffnhiefgglaaGreatDoor
open Go.RowKit
def qOk (n : Nat) (a b c d : Int) : Prop := n = 16 ∧ (0 ≤ a ∧ a ≤ 15) ∧ (0 ≤ b ∧ b ≤ 15) ∧ (0 ≤ c ∧ c ≤ 15) ∧ (0 ≤ d ∧ d ≤ 15) ∧ a ≠ b ∧ a ≠ c ∧ a ≠ d ∧ b ≠ c ∧ b ≠ d ∧ c ≠ d
instance (n : Nat) (a b c d : Int) : Decidable (qOk n a b c d) := inferInstanceAs (Decidable (_ ∧ _ ∧ _ ∧ _ ∧ _ ∧ _ ∧ _ ∧ _ ∧ _ ∧ _ ∧ _))
def quarterF (L : List Int) (a b c d : Int) : List Int := if qOk L.length a b c d then quarterL L a.toNat b.toNat c.toNat d.toNat else L
section
variable {P : Program} {e : TypeId} {i : TypeInfo} {base n m c : Nat} {wr : World} {q p : Option Addr} {cq : Nat} {xs ys : List Int}
theorem list_spreadIA {ops : Array Oper} {rest : List Oper} {o : Oper} {a : Act} {Q : Exit → Act → World → Prop} (hi : P.info? e = some i) (hz : i.zero = some (.int .i64 0)) (hsize : i.size = 1) (hby : i.bytes = 8)
    (s y : Operand) (t : TypeId) (ht : P.underlying t = some (.slice e)) (hown : wr.ownsRow base e 1 (.slice q n cq) n (xs.map (Value.int .i64))) (hin : IntsIn wr p m ys) (hl : ys.length = m) (hm' : m ≤ 1099511627776)
    (hn : n ≤ 1099511627776) (hbase : base ≤ wr.heap.size)
    (hgd : o.guard = none) (ho : o.op = .call { callee := .builtin .append, args := #[s, y], argTypes := #[t, t] }) (hs : a.eval s = .slice q n cq) (hy : a.eval y = .slice p m c)
    (h : ∀ p' cap w', w'.ownsRow base e 1 (.slice p' (n + m) cap) (n + m) ((xs ++ ys).map (Value.int .i64)) → Below base wr w' → wpList P ops Q rest (a.put o.dst (.slice p' (n + m) cap)) w') :
    wpList P ops Q (o :: rest) a wr := by
  rcases Nat.eq_zero_or_pos m with h0 | h0
  · subst h0
    obtain rfl : ys = [] := List.eq_nil_of_length_eq_zero hl
    simp only [List.append_nil, Nat.add_zero] at h
    exact Lib.wpList_append_run wr hgd s y t t ho _ _ hs hy _ _ (append_empty wr t o.type e i ht hi q n cq p c (owns_cap hown)) (h _ _ _ hown (Below.refl _ _))
  · exact list_spreadI hi hz hsize hby s y t ht hown hin hl h0 hm' hn hbase hgd ho hs hy fun g cap w' h1 h2 => h _ _ _ h1 h2
end
end Go.Proofs.YtnpffnhiefgglaaGreatDoor
