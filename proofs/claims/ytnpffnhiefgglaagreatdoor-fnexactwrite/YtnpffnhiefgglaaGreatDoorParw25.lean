/-
  A part of the proof.
-/
import Derived.Test.YtnpffnhiefgglaaGreatDoorParw24
import Derived.ChangeKeysEq
namespace Go.Proofs.YtnpffnhiefgglaaGreatDoor
open Go.RowKit
set_option maxRecDepth 100000
def takenN (W : List Nat) (k : Nat) : List Nat := W.take k ++ List.replicate (64 - k) 0
theorem takenN_length {W : List Nat} (h : W.length = 64) (k : Nat) (hk : k ≤ 64) : (takenN W k).length = 64 := by simp [takenN, h]; omega
theorem takenN_getD {W : List Nat} (h : W.length = 64) (k j : Nat) (hk : k ≤ 64) (hj : j < k) : (takenN W k).getD j 0 = W.getD j 0 := by
  simp only [takenN, List.getD_eq_getElem?_getD]
  rw [List.getElem?_append_left (by rw [List.length_take]; omega), List.getElem?_take, if_pos hj]
theorem takenN_set {W : List Nat} (h : W.length = 64) (k : Nat) (hk : k < 64) (u : Nat) (hu : u = W.getD k 0) : (u32L (takenN W k)).set k (.int .u32 (u : Int)) = u32L (takenN W (k + 1)) := by
  subst hu
  have hk0 : k - (W.take k).length = 0 := by rw [List.length_take]; omega
  have e : List.replicate (64 - k) 0 = 0 :: List.replicate (64 - (k + 1)) 0 := by rw [show 64 - k = 64 - (k + 1) + 1 by omega, List.replicate_succ]
  have : (takenN W k).set k (W.getD k 0) = takenN W (k + 1) := by
    simp only [takenN]
    rw [e, List.set_append_right _ _ (by rw [List.length_take]; omega), hk0, List.set_cons_zero, List.take_succ_eq_append_getElem (by omega), List.append_assoc, List.getD_eq_getElem?_getD, List.getElem?_eq_getElem (by omega)]
    rfl
  rw [← this]
  simp [u32L, List.map_set]
theorem implWords64 (p : Option Addr) (c : Nat) (xs : List Int) (w : World) (hc : 64 ≤ c) (hx : xs.length = 64) (h : BytesIn w p 64 xs) (hb : ∀ x ∈ xs, 0 ≤ x ∧ x < 256) :
    Calls Tryz.prog 143 #[.slice p 64 c, .bool true] w fun e w' => ∃ p' c', e = .returned (.slice p' 16 c') ∧ OwnI 3 w' w.heap.size w'.heap.size (.slice p' 16 c') 16 (natsL (wsOf xs)) ∧ Below w.heap.size w w' := by
  rw [wsOf_nats]
  exact implWords_any p 64 c true xs w (by omega) hc hx h hb
theorem u8L_in (w : World) (ty : Nat) (xs : List Int) (n : Nat) (hx : xs.length = n) : BytesIn (w.alloc (.cells (u8L xs).toArray ty)) (some ⟨w.heap.size, 0, none⟩) n xs := by
  intro _
  refine ⟨w.heap.size, 0, rfl, fun i hi => ?_⟩
  rw [cell_of_row _ _ _ _ _ _ (heap_alloc_new w _)]
  simp [u8L, List.getElem?_eq_getElem (show i < xs.length by omega)]
theorem owns_range {w : World} {lo e g n : Nat} {vs : List Value} (h : w.ownsRow lo e 1 (.slice (some ⟨g, 0, none⟩) n n) n vs) : w.rangeAt g 0 vs := by
  intro j v hv
  have hl : vs.length = n := by simpa using h.1
  have hj : j < vs.length := (List.getElem?_eq_some_iff.1 hv).1
  rw [Nat.zero_add, h.cellAt j (by omega), hv]
theorem owns_there {w : World} {lo e g n : Nat} {vs : List Value} (h : w.ownsRow lo e 1 (.slice (some ⟨g, 0, none⟩) n n) n vs) : w.there g 0 n := by
  intro j hj
  have hl : vs.length = n := by simpa using h.1
  rw [Nat.zero_add, h.cellAt j (by omega), List.getElem?_eq_getElem (by omega)]
  exact ⟨rfl, h.frozenAt j⟩
theorem u32L_one (l : List Nat) : ∀ v ∈ u32L l, v.oneCell' = true := by
  intro v hv
  simp only [u32L, List.mem_map] at hv
  obtain ⟨n, _, rfl⟩ := hv
  rfl
def putL (xs : List Value) (o : Nat) : List Value → List Value
  | [] => xs
  | v :: r => putL (xs.set o v) (o + 1) r
theorem owns_put {lo e g n c : Nat} (vs : List Value) : ∀ (o : Nat) (w : World) (xs : List Value), w.ownsRow lo e 1 (.slice (some ⟨g, 0, none⟩) n c) n xs →
    (w.setCells g o vs).ownsRow lo e 1 (.slice (some ⟨g, 0, none⟩) n c) n (putL xs o vs) ∧ w.grownBy (w.setCells g o vs) (some g) := by
  induction vs with
  | nil => intro o w xs h; exact ⟨h, World.grownBy.refl _ _⟩
  | cons v r ih =>
    intro o w xs h
    have h1 := h.stored o v
    have h2 := ih (o + 1) _ _ h1.1
    exact ⟨h2.1, grown_trans h1.2 h2.2⟩
theorem putL_mid (A B C : List Value) : ∀ (B' : List Value), B'.length = B.length → putL (A ++ (B ++ C)) A.length B' = A ++ (B' ++ C) := by
  intro B'
  induction B' generalizing A B with
  | nil =>
    intro h
    obtain rfl : B = [] := List.eq_nil_of_length_eq_zero h.symm
    rfl
  | cons v r ih =>
    intro h
    cases B with
    | nil => simp at h
    | cons b B =>
      have := ih (A ++ [v]) B (by simpa using h)
      simp only [putL]
      rw [List.set_append_right _ _ (Nat.le_refl _), Nat.sub_self]
      simpa using this
theorem infoW64 : (Tryz.prog.info? 166).map (·.size) = some 64 := by kernel_rfl
set_option maxHeartbeats 1200000 in
theorem spread_any (xs : List Int) (w : World) (hx : xs.length = 64) (hb : ∀ x ∈ xs, 0 ≤ x ∧ x < 256) :
    Calls Tryz.prog 209 #[.agg (u8L xs).toArray] w fun e w' => e = .returned (.agg (u32L (spreadN (wsOf xs))).toArray) ∧ Below w.heap.size w w' := by
  have hwl := wsOf_length xs
  have hwt := wsOf_lt hb
  have C := fun p w h => implWords64 p 64 xs w (Nat.le_refl _) hx h hb
  have hWl := spreadN_length hwl
  have hWt := spreadN_lt hwt
  have HF : Hid (∀ t, t < 16 → (spreadN (wsOf xs)).getD t 0 = (wsOf xs).getD t 0) := fun t ht => spreadN_first hwl t ht
  have HX : Hid (∀ t, 16 ≤ t → t < 64 → (spreadN (wsOf xs)).getD t 0 = nextN (spreadN (wsOf xs)) t) := fun t h1 h2 => spreadN_next hwl t h1 h2
  generalize spreadN (wsOf xs) = W at hWl hWt HF HX ⊢
  generalize wsOf xs = ws at hwl hwt C HF
  go_enter Tryz.func209, Tryz.ntmps209
  go_wp2_with (fail)
  have ba : Below w.heap.size w (w.alloc (.cells (u8L xs).toArray 165)) := (Below.refl _ _).alloc (Nat.le_refl _) _
  have ia := u8L_in w 165 xs 64 hx
  have sa : (w.alloc (.cells (u8L xs).toArray 165)).heap.size = w.heap.size + 1 := by simp
  generalize w.alloc (.cells (u8L xs).toArray 165) = wa at ba ia sa ⊢
  have hz : ∀ X : World, (X.alloc (.cells (u32L (List.replicate 64 0)).toArray 166)).ownsRow w.heap.size 166 1 (.slice (some ⟨X.heap.size, 0, none⟩) 64 64) 64 (u32L (List.replicate 64 0)) ∨ X.heap.size < w.heap.size := by
    intro X
    by_cases h : w.heap.size ≤ X.heap.size
    · exact .inl ⟨rfl, .inr ⟨X.heap.size, 64, _, rfl, h, heap_alloc_new X _, Nat.le_refl _, by unfold maxLen; omega, rfl, rfl⟩⟩
    · exact .inr (by omega)
  have ez : (u32L (List.replicate 64 0)).toArray = #[.int .u32 0, .int .u32 0, .int .u32 0, .int .u32 0, .int .u32 0, .int .u32 0, .int .u32 0, .int .u32 0, .int .u32 0, .int .u32 0, .int .u32 0, .int .u32 0, .int .u32 0, .int .u32 0, .int .u32 0, .int .u32 0, .int .u32 0, .int .u32 0, .int .u32 0, .int .u32 0, .int .u32 0, .int .u32 0, .int .u32 0, .int .u32 0, .int .u32 0, .int .u32 0, .int .u32 0, .int .u32 0, .int .u32 0, .int .u32 0, .int .u32 0, .int .u32 0, .int .u32 0, .int .u32 0, .int .u32 0, .int .u32 0, .int .u32 0, .int .u32 0, .int .u32 0, .int .u32 0, .int .u32 0, .int .u32 0, .int .u32 0, .int .u32 0, .int .u32 0, .int .u32 0, .int .u32 0, .int .u32 0, .int .u32 0, .int .u32 0, .int .u32 0, .int .u32 0, .int .u32 0, .int .u32 0, .int .u32 0, .int .u32 0, .int .u32 0, .int .u32 0, .int .u32 0, .int .u32 0, .int .u32 0, .int .u32 0, .int .u32 0, .int .u32 0] := rfl
  rw [ez] at hz
  have h2 := (hz wa).resolve_right (by omega)
  have bb : Below wa.heap.size wa (wa.alloc (.cells #[.int .u32 0, .int .u32 0, .int .u32 0, .int .u32 0, .int .u32 0, .int .u32 0, .int .u32 0, .int .u32 0, .int .u32 0, .int .u32 0, .int .u32 0, .int .u32 0, .int .u32 0, .int .u32 0, .int .u32 0, .int .u32 0, .int .u32 0, .int .u32 0, .int .u32 0, .int .u32 0, .int .u32 0, .int .u32 0, .int .u32 0, .int .u32 0, .int .u32 0, .int .u32 0, .int .u32 0, .int .u32 0, .int .u32 0, .int .u32 0, .int .u32 0, .int .u32 0, .int .u32 0, .int .u32 0, .int .u32 0, .int .u32 0, .int .u32 0, .int .u32 0, .int .u32 0, .int .u32 0, .int .u32 0, .int .u32 0, .int .u32 0, .int .u32 0, .int .u32 0, .int .u32 0, .int .u32 0, .int .u32 0, .int .u32 0, .int .u32 0, .int .u32 0, .int .u32 0, .int .u32 0, .int .u32 0, .int .u32 0, .int .u32 0, .int .u32 0, .int .u32 0, .int .u32 0, .int .u32 0, .int .u32 0, .int .u32 0, .int .u32 0, .int .u32 0] 166)) := (Below.refl _ _).alloc (Nat.le_refl _) _
  have sb : (wa.alloc (.cells #[.int .u32 0, .int .u32 0, .int .u32 0, .int .u32 0, .int .u32 0, .int .u32 0, .int .u32 0, .int .u32 0, .int .u32 0, .int .u32 0, .int .u32 0, .int .u32 0, .int .u32 0, .int .u32 0, .int .u32 0, .int .u32 0, .int .u32 0, .int .u32 0, .int .u32 0, .int .u32 0, .int .u32 0, .int .u32 0, .int .u32 0, .int .u32 0, .int .u32 0, .int .u32 0, .int .u32 0, .int .u32 0, .int .u32 0, .int .u32 0, .int .u32 0, .int .u32 0, .int .u32 0, .int .u32 0, .int .u32 0, .int .u32 0, .int .u32 0, .int .u32 0, .int .u32 0, .int .u32 0, .int .u32 0, .int .u32 0, .int .u32 0, .int .u32 0, .int .u32 0, .int .u32 0, .int .u32 0, .int .u32 0, .int .u32 0, .int .u32 0, .int .u32 0, .int .u32 0, .int .u32 0, .int .u32 0, .int .u32 0, .int .u32 0, .int .u32 0, .int .u32 0, .int .u32 0, .int .u32 0, .int .u32 0, .int .u32 0, .int .u32 0, .int .u32 0] 166)).heap.size = w.heap.size + 1 + 1 := by simp [sa]
  rw [sa] at h2
  generalize wa.alloc (.cells #[.int .u32 0, .int .u32 0, .int .u32 0, .int .u32 0, .int .u32 0, .int .u32 0, .int .u32 0, .int .u32 0, .int .u32 0, .int .u32 0, .int .u32 0, .int .u32 0, .int .u32 0, .int .u32 0, .int .u32 0, .int .u32 0, .int .u32 0, .int .u32 0, .int .u32 0, .int .u32 0, .int .u32 0, .int .u32 0, .int .u32 0, .int .u32 0, .int .u32 0, .int .u32 0, .int .u32 0, .int .u32 0, .int .u32 0, .int .u32 0, .int .u32 0, .int .u32 0, .int .u32 0, .int .u32 0, .int .u32 0, .int .u32 0, .int .u32 0, .int .u32 0, .int .u32 0, .int .u32 0, .int .u32 0, .int .u32 0, .int .u32 0, .int .u32 0, .int .u32 0, .int .u32 0, .int .u32 0, .int .u32 0, .int .u32 0, .int .u32 0, .int .u32 0, .int .u32 0, .int .u32 0, .int .u32 0, .int .u32 0, .int .u32 0, .int .u32 0, .int .u32 0, .int .u32 0, .int .u32 0, .int .u32 0, .int .u32 0, .int .u32 0, .int .u32 0] 166) = wb at h2 bb sb ⊢
  have h3 := (hz wb).resolve_right (by omega)
  have bc : Below wb.heap.size wb (wb.alloc (.cells #[.int .u32 0, .int .u32 0, .int .u32 0, .int .u32 0, .int .u32 0, .int .u32 0, .int .u32 0, .int .u32 0, .int .u32 0, .int .u32 0, .int .u32 0, .int .u32 0, .int .u32 0, .int .u32 0, .int .u32 0, .int .u32 0, .int .u32 0, .int .u32 0, .int .u32 0, .int .u32 0, .int .u32 0, .int .u32 0, .int .u32 0, .int .u32 0, .int .u32 0, .int .u32 0, .int .u32 0, .int .u32 0, .int .u32 0, .int .u32 0, .int .u32 0, .int .u32 0, .int .u32 0, .int .u32 0, .int .u32 0, .int .u32 0, .int .u32 0, .int .u32 0, .int .u32 0, .int .u32 0, .int .u32 0, .int .u32 0, .int .u32 0, .int .u32 0, .int .u32 0, .int .u32 0, .int .u32 0, .int .u32 0, .int .u32 0, .int .u32 0, .int .u32 0, .int .u32 0, .int .u32 0, .int .u32 0, .int .u32 0, .int .u32 0, .int .u32 0, .int .u32 0, .int .u32 0, .int .u32 0, .int .u32 0, .int .u32 0, .int .u32 0, .int .u32 0] 166)) := (Below.refl _ _).alloc (Nat.le_refl _) _
  rw [sb] at h3
  generalize wb.alloc (.cells #[.int .u32 0, .int .u32 0, .int .u32 0, .int .u32 0, .int .u32 0, .int .u32 0, .int .u32 0, .int .u32 0, .int .u32 0, .int .u32 0, .int .u32 0, .int .u32 0, .int .u32 0, .int .u32 0, .int .u32 0, .int .u32 0, .int .u32 0, .int .u32 0, .int .u32 0, .int .u32 0, .int .u32 0, .int .u32 0, .int .u32 0, .int .u32 0, .int .u32 0, .int .u32 0, .int .u32 0, .int .u32 0, .int .u32 0, .int .u32 0, .int .u32 0, .int .u32 0, .int .u32 0, .int .u32 0, .int .u32 0, .int .u32 0, .int .u32 0, .int .u32 0, .int .u32 0, .int .u32 0, .int .u32 0, .int .u32 0, .int .u32 0, .int .u32 0, .int .u32 0, .int .u32 0, .int .u32 0, .int .u32 0, .int .u32 0, .int .u32 0, .int .u32 0, .int .u32 0, .int .u32 0, .int .u32 0, .int .u32 0, .int .u32 0, .int .u32 0, .int .u32 0, .int .u32 0, .int .u32 0, .int .u32 0, .int .u32 0, .int .u32 0, .int .u32 0] 166) = wc at h3 bc ⊢
  clear hz ez
  have ic := in_below (in_below ia bb) bc
  refine (C _ _ ic).mono ?_
  rintro e w1 ⟨p1, c1, rfl, r1, b1⟩
  have hB2 := owns_below (owns_below h2 bc) b1
  have hB3 := owns_below h3 b1
  have bel := below_on (below_on (below_on ba bb) bc) b1
  have hF := r1.1
  obtain ⟨g1, rfl⟩ := owns_at hF (by omega)
  have hg1 := (hF.lt g1 rfl).1
  have hsc := h3.lt (w.heap.size + 1 + 1) rfl
  clear C ia ic h2 h3 ba bb bc b1 r1 sa sb hx hb
  obtain ⟨B2, hB2e⟩ : ∃ B2, B2 = w.heap.size + 1 := ⟨_, rfl⟩
  rw [← hB2e] at hB2 hB3 hsc ⊢
  obtain ⟨B3, hB3e⟩ : ∃ B3, B3 = B2 + 1 := ⟨_, rfl⟩
  rw [← hB3e] at hB3 hsc ⊢
  have hB31 : B3 < w1.heap.size := (hB3.lt B3 rfl).2
  have hne1 : g1 ≠ B3 := by omega
  have hne2 : B2 ≠ B3 := by omega
  have hne3 : w.heap.size ≤ B3 := by omega
  have hne4 : w.heap.size ≤ B2 := by omega
  clear hB2e hB3e hg1 hsc
  go_wp2_with (fail)
  go_loopw [8] (fun i wr => ∃ t : Nat, t ≤ 64 ∧ i = .int .i64 t ∧ wr.ownsRow w.heap.size 166 1 (.slice (some ⟨B3, 0, none⟩) 64 64) 64 (u32L (takenN W t)) ∧ w1.grownBy wr (some B3))
    (fun i _ => 64 - (intOf i).toNat)
  case atStart => exact ⟨0, by omega, rfl, hB3, World.grownBy.refl _ _⟩
  case round =>
    clear hB3
    obtain ⟨t, ht, rfl, hB3, hgr⟩ := hrel
    by_cases hlt : t < 64
    · have hfr := hB3.frozenAt t
      have hfl := takenN_length hWl t ht
      have hold : wr.cell? ⟨B3, t, none⟩ = some (.int .u32 (((takenN W t).getD t 0 : Nat) : Int)) := by rw [hB3.cellAt t (by omega), u32L_getElem? _ _ (by omega)]
      generalize (takenN W t).getD t 0 = old at hold
      by_cases h16 : t < 16
      · have hk := hF.kept hgr (.inr (by simp [Value.ownBlock]; exact fun h => hne1 h))
        have d : wr.cell? ⟨g1, t, none⟩ = some (.int .i64 ((ws.getD t 0 : Nat) : Int)) := by
          rw [hk.cellAt t (by omega), ← natsL_getD, List.getElem?_map, List.getD_eq_getElem?_getD, List.getElem?_eq_getElem (by rw [natsL_length]; omega)]
          rfl
        have la := getD_lt hwt (by decide) t
        have st := hB3.stored t (.int .u32 ((ws.getD t 0 : Nat) : Int))
        rw [takenN_set hWl t hlt _ (HF.out t h16).symm] at st
        generalize ws.getD t 0 = a at d la st
        have ma : (a : Int) % 4294967296 = (a : Int) := by omega
        have wa : IntKind.u32.wrap (a : Int) = (a : Int) := by rw [IntKind.wrap_u32]; exact ma
        have hgr' := grown_trans hgr st.2
        have st' := st.1
        clear st hB3 hk hgr
        go_wp2
        go_roundw
        case rel => exact ⟨t + 1, by omega, by go_num, st', hgr'⟩
        case measure => simp [intOf]; omega
      · have cell : ∀ j, j < t → wr.cell? ⟨B3, j, none⟩ = some (.int .u32 ((W.getD j 0 : Nat) : Int)) := by
          intro j hj
          rw [hB3.cellAt j (by omega), u32L_getElem? _ _ (by omega), takenN_getD hWl t j ht hj]
        obtain ⟨j2, hj2⟩ : ∃ j2, t = j2 + 2 := ⟨t - 2, by omega⟩
        obtain ⟨j7, hj7⟩ : ∃ j7, t = j7 + 7 := ⟨t - 7, by omega⟩
        obtain ⟨j15, hj15⟩ : ∃ j15, t = j15 + 15 := ⟨t - 15, by omega⟩
        obtain ⟨j16, hj16⟩ : ∃ j16, t = j16 + 16 := ⟨t - 16, by omega⟩
        have l2 : j2 < 64 := by omega
        have l7 : j7 < 64 := by omega
        have l15 : j15 < 64 := by omega
        have l16 : j16 < 64 := by omega
        have d2 := cell j2 (by omega)
        have d7 := cell j7 (by omega)
        have d15 := cell j15 (by omega)
        have d16 := cell j16 (by omega)
        have m2 := getD_lt hWt (by decide) j2
        have m7 := getD_lt hWt (by decide) j7
        have m15 := getD_lt hWt (by decide) j15
        have m16 := getD_lt hWt (by decide) j16
        have HU : Hid (W.getD t 0 = (smallN (W.getD j2 0) 17 19 10 + W.getD j7 0 + smallN (W.getD j15 0) 7 18 3 + W.getD j16 0) % 4294967296) := by
          rw [Hid, HX.out t (by omega) hlt]
          unfold nextN
          rw [show t - 2 = j2 by omega, show t - 7 = j7 by omega, show t - 15 = j15 by omega, show t - 16 = j16 by omega]
        clear cell
        generalize W.getD j2 0 = a2 at d2 m2 HU
        generalize W.getD j7 0 = a7 at d7 m7 HU
        generalize W.getD j15 0 = a15 at d15 m15 HU
        generalize W.getD j16 0 = a16 at d16 m16 HU
        have C1 := fun w => smallMix1_same a2 w m2
        have C0 := fun w => smallMix0_same a15 w m15
        have n1 := smallN_lt (a := 17) (b := 19) (c := 10) m2 (by decide) (by decide)
        have n0 := smallN_lt (a := 7) (b := 18) (c := 3) m15 (by decide) (by decide)
        generalize smallN a2 17 19 10 = r1 at C1 n1 HU
        generalize smallN a15 7 18 3 = r0 at C0 n0 HU
        obtain ⟨x1, hx1⟩ : ∃ x1 : Nat, x1 = (r1 + a7) % 4294967296 := ⟨_, rfl⟩
        have mx1 : ((r1 : Int) + (a7 : Int)) % 4294967296 = (x1 : Int) := by omega
        have wx1 : IntKind.u32.wrap ((r1 : Int) + (a7 : Int)) = (x1 : Int) := by rw [IntKind.wrap_u32]; exact mx1
        obtain ⟨x2, hx2⟩ : ∃ x2 : Nat, x2 = (x1 + r0) % 4294967296 := ⟨_, rfl⟩
        have mx2 : ((x1 : Int) + (r0 : Int)) % 4294967296 = (x2 : Int) := by omega
        have wx2 : IntKind.u32.wrap ((x1 : Int) + (r0 : Int)) = (x2 : Int) := by rw [IntKind.wrap_u32]; exact mx2
        obtain ⟨u, hu⟩ : ∃ u : Nat, u = (x2 + a16) % 4294967296 := ⟨_, rfl⟩
        have mu : ((x2 : Int) + (a16 : Int)) % 4294967296 = (u : Int) := by omega
        have wu : IntKind.u32.wrap ((x2 : Int) + (a16 : Int)) = (u : Int) := by rw [IntKind.wrap_u32]; exact mu
        have hUu : u = W.getD t 0 := by rw [HU.out]; omega
        have st := hB3.stored t (.int .u32 (u : Int))
        rw [takenN_set hWl t hlt u hUu] at st
        have hgr' := grown_trans hgr st.2
        have st' := st.1
        have v2 : IntKind.i64.wrap ((t : Int) - 2) = (j2 : Int) := by rw [IntKind.wrap_i64]; omega
        have v7 : IntKind.i64.wrap ((t : Int) - 7) = (j7 : Int) := by rw [IntKind.wrap_i64]; omega
        have v15 : IntKind.i64.wrap ((t : Int) - 15) = (j15 : Int) := by rw [IntKind.wrap_i64]; omega
        have v16 : IntKind.i64.wrap ((t : Int) - 16) = (j16 : Int) := by rw [IntKind.wrap_i64]; omega
        have k2 : (⟨B3, t, none⟩ : Addr) ≠ ⟨B3, j2, none⟩ := by intro h; injection h with _ h; omega
        have k7 : (⟨B3, t, none⟩ : Addr) ≠ ⟨B3, j7, none⟩ := by intro h; injection h with _ h; omega
        have k15 : (⟨B3, t, none⟩ : Addr) ≠ ⟨B3, j15, none⟩ := by intro h; injection h with _ h; omega
        have k16 : (⟨B3, t, none⟩ : Addr) ≠ ⟨B3, j16, none⟩ := by intro h; injection h with _ h; omega
        have HD : ∀ X : World, X.drew.cell? = X.cell? := fun X => by funext p; simp
        have HS1 : wr.cell? ⟨B3, j2, none⟩ = some (.int .u32 (a2 : Int)) ∧ wr.cell? ⟨B3, j7, none⟩ = some (.int .u32 (a7 : Int)) ∧ wr.cell? ⟨B3, j15, none⟩ = some (.int .u32 (a15 : Int)) ∧ wr.cell? ⟨B3, j16, none⟩ = some (.int .u32 (a16 : Int)) := ⟨d2, d7, d15, d16⟩
        have HSd : wr.drew.cell? ⟨B3, j2, none⟩ = some (.int .u32 (a2 : Int)) ∧ wr.drew.cell? ⟨B3, j7, none⟩ = some (.int .u32 (a7 : Int)) ∧ wr.drew.cell? ⟨B3, j15, none⟩ = some (.int .u32 (a15 : Int)) ∧ wr.drew.cell? ⟨B3, j16, none⟩ = some (.int .u32 (a16 : Int)) := by rw [HD]; exact HS1
        have HS2 : (wr.setCell ⟨B3, t, none⟩ (.int .u32 (u : Int))).cell? ⟨B3, j2, none⟩ = some (.int .u32 (a2 : Int)) ∧ (wr.setCell ⟨B3, t, none⟩ (.int .u32 (u : Int))).cell? ⟨B3, j7, none⟩ = some (.int .u32 (a7 : Int)) ∧ (wr.setCell ⟨B3, t, none⟩ (.int .u32 (u : Int))).cell? ⟨B3, j15, none⟩ = some (.int .u32 (a15 : Int)) ∧ (wr.setCell ⟨B3, t, none⟩ (.int .u32 (u : Int))).cell? ⟨B3, j16, none⟩ = some (.int .u32 (a16 : Int)) := ⟨(World.cell?_setCell_other _ _ _ _ k2).trans d2, (World.cell?_setCell_other _ _ _ _ k7).trans d7, (World.cell?_setCell_other _ _ _ _ k15).trans d15, (World.cell?_setCell_other _ _ _ _ k16).trans d16⟩
        have HSa : (wr.setCell ⟨B3, t, none⟩ (.int .u32 (u : Int))).drew.cell? ⟨B3, j2, none⟩ = some (.int .u32 (a2 : Int)) ∧ (wr.setCell ⟨B3, t, none⟩ (.int .u32 (u : Int))).drew.cell? ⟨B3, j7, none⟩ = some (.int .u32 (a7 : Int)) ∧ (wr.setCell ⟨B3, t, none⟩ (.int .u32 (u : Int))).drew.cell? ⟨B3, j15, none⟩ = some (.int .u32 (a15 : Int)) ∧ (wr.setCell ⟨B3, t, none⟩ (.int .u32 (u : Int))).drew.cell? ⟨B3, j16, none⟩ = some (.int .u32 (a16 : Int)) := by rw [HD]; exact HS2
        have HSb : (wr.drew.setCell ⟨B3, t, none⟩ (.int .u32 (u : Int))).cell? ⟨B3, j2, none⟩ = some (.int .u32 (a2 : Int)) ∧ (wr.drew.setCell ⟨B3, t, none⟩ (.int .u32 (u : Int))).cell? ⟨B3, j7, none⟩ = some (.int .u32 (a7 : Int)) ∧ (wr.drew.setCell ⟨B3, t, none⟩ (.int .u32 (u : Int))).cell? ⟨B3, j15, none⟩ = some (.int .u32 (a15 : Int)) ∧ (wr.drew.setCell ⟨B3, t, none⟩ (.int .u32 (u : Int))).cell? ⟨B3, j16, none⟩ = some (.int .u32 (a16 : Int)) := ⟨(World.cell?_setCell_other _ _ _ _ k2).trans HSd.1, (World.cell?_setCell_other _ _ _ _ k7).trans HSd.2.1, (World.cell?_setCell_other _ _ _ _ k15).trans HSd.2.2.1, (World.cell?_setCell_other _ _ _ _ k16).trans HSd.2.2.2⟩
        replace HSd : Hid (wr.drew.cell? ⟨B3, j2, none⟩ = some (.int .u32 (a2 : Int)) ∧ wr.drew.cell? ⟨B3, j7, none⟩ = some (.int .u32 (a7 : Int)) ∧ wr.drew.cell? ⟨B3, j15, none⟩ = some (.int .u32 (a15 : Int)) ∧ wr.drew.cell? ⟨B3, j16, none⟩ = some (.int .u32 (a16 : Int))) := HSd
        replace HSa : Hid ((wr.setCell ⟨B3, t, none⟩ (.int .u32 (u : Int))).drew.cell? ⟨B3, j2, none⟩ = some (.int .u32 (a2 : Int)) ∧ (wr.setCell ⟨B3, t, none⟩ (.int .u32 (u : Int))).drew.cell? ⟨B3, j7, none⟩ = some (.int .u32 (a7 : Int)) ∧ (wr.setCell ⟨B3, t, none⟩ (.int .u32 (u : Int))).drew.cell? ⟨B3, j15, none⟩ = some (.int .u32 (a15 : Int)) ∧ (wr.setCell ⟨B3, t, none⟩ (.int .u32 (u : Int))).drew.cell? ⟨B3, j16, none⟩ = some (.int .u32 (a16 : Int))) := HSa
        replace HSb : Hid ((wr.drew.setCell ⟨B3, t, none⟩ (.int .u32 (u : Int))).cell? ⟨B3, j2, none⟩ = some (.int .u32 (a2 : Int)) ∧ (wr.drew.setCell ⟨B3, t, none⟩ (.int .u32 (u : Int))).cell? ⟨B3, j7, none⟩ = some (.int .u32 (a7 : Int)) ∧ (wr.drew.setCell ⟨B3, t, none⟩ (.int .u32 (u : Int))).cell? ⟨B3, j15, none⟩ = some (.int .u32 (a15 : Int)) ∧ (wr.drew.setCell ⟨B3, t, none⟩ (.int .u32 (u : Int))).cell? ⟨B3, j16, none⟩ = some (.int .u32 (a16 : Int))) := HSb
        clear HD HS1 HS2
        clear hj2 hj7 hj15 hj16 HU hUu hx1 hx2 hu st k2 k7 k15 k16 hgr hB3
        have hc16 : ¬ (t : Int) < 16 := by omega
        have i2 : (j2 : Int) < 64 := by omega
        have p2 : (0 : Int) ≤ (j2 : Int) := by omega
        have i7 : (j7 : Int) < 64 := by omega
        have p7 : (0 : Int) ≤ (j7 : Int) := by omega
        have i15 : (j15 : Int) < 64 := by omega
        have p15 : (0 : Int) ≤ (j15 : Int) := by omega
        have i16 : (j16 : Int) < 64 := by omega
        have p16 : (0 : Int) ≤ (j16 : Int) := by omega
        go_wp2_with (fail)
        go_region_held3 (fun w' => w'.cell? ⟨B3, j2, none⟩ = some (.int .u32 (a2 : Int)) ∧ w'.cell? ⟨B3, j7, none⟩ = some (.int .u32 (a7 : Int)) ∧ w'.cell? ⟨B3, j15, none⟩ = some (.int .u32 (a15 : Int)) ∧ w'.cell? ⟨B3, j16, none⟩ = some (.int .u32 (a16 : Int))) (first | with_reducible exact HSd.out | with_reducible exact HSa.out | with_reducible exact HSb.out) (first | (go_at_call 219; refine (C1 _).mono ?_; rintro e w9 ⟨rfl, rfl⟩) | (go_at_call 220; refine (C0 _).mono ?_; rintro e w9 ⟨rfl, rfl⟩))
        all_goals
          go_wp2
          go_roundw
          case rel => exact ⟨t + 1, by omega, by go_num, st', ⟨hgr'.os, hgr'.tape, hgr'.output, hgr'.size, hgr'.block⟩⟩
          case measure => simp [intOf]; omega
    · have hfin : takenN W t = W := by simp [takenN, show t = 64 by omega, List.take_of_length_le (show W.length ≤ 64 by omega)]
      rw [hfin] at hB3
      clear hfin
      have hk2 := hB2.kept hgr (.inr (by simp [Value.ownBlock]; exact fun h => hne2 h))
      have hra := owns_range hB3
      have hth := owns_there hk2
      have hsz : (Tryz.prog.info? 166).map (·.size) = some (u32L W).length := by rw [infoW64]; simp [u32L, hWl]
      have hsz2 : (Tryz.prog.info? 166).map (·.size) = some (u32L W).toArray.size := by rw [infoW64]; simp [u32L, hWl]
      have hth2 : wr.there B2 0 (u32L W).toArray.size := by rw [show (u32L W).toArray.size = 64 by simp [u32L, hWl]]; exact hth
      have hth3 : wr.there B2 0 (u32L W).length := by rw [show (u32L W).length = 64 by simp [u32L, hWl]]; exact hth
      have hrl := World.rangeAt_setCells_same wr B2 0 (u32L W) hth3
      have hput := (owns_put (u32L W) 0 wr _ hk2).2
      have hbel : Below w.heap.size w (wr.setCells B2 0 (u32L W)) := (bel.grown hgr bel.size (fun k hk => by cases hk; exact hne3)).grown hput (Nat.le_trans bel.size hgr.size) (fun k hk => by cases hk; exact hne4)
      have hld := run_loadVar_mid (P := Tryz.prog) (wr.setCells B2 0 (u32L W)) B2 0 166 (u32L W) _ hrl Tryz.underlying166 rfl hsz
      clear hk2 hth hth3 hrl hput hgr hB2 hB3
      go_wp2_with (first | (refine wpList_load_mid rfl 166 _ rfl B3 0 rfl (u32L W) _ hra Tryz.underlying166 rfl hsz ?_) | (refine wpList_store_mid rfl 166 _ _ rfl B2 0 (u32L W).toArray rfl rfl hth2 hsz2 (all_oneCell_toArray (u32L_one W)) ?_))
      (try simp only [Exit.inBlock, Exit.then])
      refine bodyPost_ret (v := .agg (u32L W).toArray) ?_ rfl ⟨rfl, hbel⟩
      simp [results, asAddr, Act.put, hld]
theorem eqItems_bytes {P : Program} (w : World) (d : Nat) {e : TypeId} (he : P.underlying e = some (.int .u8)) (hc : P.cellsOf e = 1) (hag : ∀ w, (isAgg e).run P w = .ok false w) (xs ys : List Int) : ∀ (is : List Nat), (∀ i ∈ is, i < xs.length ∧ i < ys.length) →
    (Op.eqItems (d + 1) e (P.cellsOf e) (u8L xs).toArray (u8L ys).toArray is).run P w = .ok (is.all fun i => xs.getD i 0 == ys.getD i 0) w
  | [], _ => by simp [Op.eqItems]
  | i :: is, h => by
    have h1 := h i (by simp)
    have p1 : ∀ zs : List Int, i < zs.length → (part e (u8L zs).toArray (i * 1)).run P w = .ok (.int .u8 (zs.getD i 0)) w := by
      intro zs hz
      simp [part, hag, u8L, List.getElem?_eq_getElem hz]
    have ih := eqItems_bytes w d he hc hag xs ys is (fun j hj => h j (by simp [hj]))
    rw [hc] at ih ⊢
    simp only [Op.eqItems, Sem.run_bind, p1 xs h1.1, p1 ys h1.2, Result.andThen_ok, run_equalIn_int w d e .u8 .u8 _ _ he, List.all_cons]
    simp only [List.getD_eq_getElem?_getD] at ih ⊢
    by_cases hq : xs[i]?.getD 0 = ys[i]?.getD 0
    · simp [hq, ih]
    · simp [hq]
theorem bytes_all {xs ys : List Int} {n : Nat} (hx : xs.length = n) (hy : ys.length = n) : ((List.range n).all fun i => xs.getD i 0 == ys.getD i 0) = decide (xs = ys) := by
  by_cases h : xs = ys
  · subst h
    simp
  · rw [decide_eq_false h]
    rw [Bool.eq_false_iff]
    intro hall
    apply h
    apply List.ext_getElem (by omega)
    intro i h1 h2
    simp only [List.all_eq_true, List.mem_range, beq_iff_eq] at hall
    have := hall i (by omega)
    simpa [List.getElem?_eq_getElem h1, List.getElem?_eq_getElem h2] using this
theorem blkEq (xs ys : List Int) (hx : xs.length = 64) (hy : ys.length = 64) (w : World) : (Op.equalIn 10000 165 (.agg (u8L xs).toArray) (.agg (u8L ys).toArray)).run Tryz.prog w = .ok (decide (xs = ys)) w := by
  obtain ⟨i0, hi, _, hz1, _⟩ := info_parts infoByte
  have hc : Tryz.prog.cellsOf 5 = 1 := by kernel_rfl
  rw [show (10000 : Nat) = 9998 + 1 + 1 from rfl, run_equalIn_array w (9998 + 1) _ _ Tryz.underlying165 hi, eqItems_bytes w 9998 Tryz.underlying5 hc (fun w => by simp [isAgg, run_underlying Tryz.underlying5]) xs ys _ (fun i hi => by rw [List.mem_range] at hi; omega), bytes_all hx hy]
theorem infoBlk : (Tryz.prog.info? 165).map (·.size) = some 64 := by kernel_rfl
section
variable {ty n o : Nat} {A B : List Value} {w : World} {lo g : Nat} {S : List Nat} {L : List Int} {W : List Nat}
theorem HashIn.lastAt (h : HashIn ty n o A B w lo g S L W) : w.rangeAt g (o + 8) (u8L L) := by
  have h1 := h.1
  have h2 := h.2.1
  intro j v hv
  have hj : j < 64 := by have := (List.getElem?_eq_some_iff.1 hv).1; simp [u8L] at this; omega
  rw [Nat.add_assoc, h.cell (8 + j) (by omega), hashC, List.getElem?_append_right (by simp [u32L]; omega), List.getElem?_append_left (by simp [u32L, u8L]; omega), show 8 + j - (u32L S).length = j by simp [u32L]; omega, hv]
theorem HashIn.there (h : HashIn ty n o A B w lo g S L W) (q m : Nat) (hn : q + m ≤ 136) : w.there g (o + q) m := by
  intro j hj
  have hl : (hashC S L W).length = 136 := hashC_length h.1 h.2.1 h.2.2.1
  rw [Nat.add_assoc, h.cell (q + j) (by omega), List.getElem?_eq_getElem (by omega)]
  exact ⟨rfl, h.frozen _⟩
end
theorem u8L_one (l : List Int) : ∀ v ∈ u8L l, v.oneCell' = true := by
  intro v hv
  simp only [u8L, List.mem_map] at hv
  obtain ⟨n, _, rfl⟩ := hv
  rfl
section
variable {ty n o : Nat} {A B : List Value} {w : World} {lo g : Nat} {S : List Nat} {L L' : List Int} {W W' : List Nat}
theorem HashIn.putLast (h : HashIn ty n o A B w lo g S L W) (hL : L'.length = 64) : HashIn ty n o A B (w.setCells g (o + 8) (u8L L')) lo g S L' W ∧ w.grownBy (w.setCells g (o + 8) (u8L L')) (some g) := by
  obtain ⟨h1, h2, h3, h5, h4⟩ := h
  have h6 := owns_put (u8L L') (o + 8) w _ h4
  have e := putL_mid (A ++ u32L S) (u8L L) (u32L W ++ B) (u8L L') (by simp [u8L, hL, h2])
  rw [show (A ++ u32L S).length = o + 8 by simp [u32L, h1, h5]] at e
  simp only [hashC, List.append_assoc] at e h6
  rw [e] at h6
  refine ⟨⟨h1, hL, h3, h5, ?_⟩, h6.2⟩
  simp only [hashC, List.append_assoc]
  exact h6.1
theorem HashIn.putSpread (h : HashIn ty n o A B w lo g S L W) (hW : W'.length = 64) : HashIn ty n o A B (w.setCells g (o + 72) (u32L W')) lo g S L W' ∧ w.grownBy (w.setCells g (o + 72) (u32L W')) (some g) := by
  obtain ⟨h1, h2, h3, h5, h4⟩ := h
  have h6 := owns_put (u32L W') (o + 72) w _ h4
  have e := putL_mid (A ++ (u32L S ++ u8L L)) (u32L W) B (u32L W') (by simp [u32L, hW, h3])
  rw [show (A ++ (u32L S ++ u8L L)).length = o + 72 by simp [u32L, u8L, h1, h2, h5]] at e
  simp only [hashC, List.append_assoc] at e h6
  rw [e] at h6
  refine ⟨⟨h1, h2, hW, h5, ?_⟩, h6.2⟩
  simp only [hashC, List.append_assoc]
  exact h6.1
end
theorem range_below {w w' : World} {b o B : Nat} {cs : List Value} (h : w.rangeAt b o cs) (hb : Below B w w') (hB : b < B) : w'.rangeAt b o cs := fun j v hv => (hb.cell (p := ⟨b, o + j, none⟩) hB).trans (h j v hv)
theorem range_alloc (w : World) (ty : Nat) (xs : List Int) : (w.alloc (.cells (u8L xs).toArray ty)).rangeAt w.heap.size 0 (u8L xs) := by
  intro j v hv
  rw [Nat.zero_add, cell_of_row _ _ _ _ _ _ (heap_alloc_new w _)]
  simpa using hv
set_option maxHeartbeats 2400000 in
theorem take_any (ty n o : Nat) (A B : List Value) (lo g : Nat) (S : List Nat) (L xs : List Int) (w : World) (hS : ∀ x ∈ S, x < 4294967296) (hLb : ∀ x ∈ L, 0 ≤ x ∧ x < 256) (hx : xs.length = 64) (hb : ∀ x ∈ xs, 0 ≤ x ∧ x < 256) (h : HashIn ty n o A B w lo g S L (spreadN (wsOf L))) (hK : KeysIs w) (hlo : 2 < lo) :
    Calls Tryz.prog 186 #[.pointer (some ⟨g, o, none⟩), .agg (u8L xs).toArray] w fun e w' => e = .returned (.tuple #[]) ∧ HashIn ty n o A B w' lo g (blockN (wsOf xs) S) xs (spreadN (wsOf xs)) ∧ w.grownBy w' (some g) := by
  have hy := h.2.1
  have heq := blkEq xs L hx hy
  have hg := h.lt
  have hsz : (Tryz.prog.info? 165).map (·.size) = some (u8L xs).length := by rw [infoBlk]; simp [u8L, hx]
  have hsz' : (Tryz.prog.info? 165).map (·.size) = some (u8L L).length := by rw [infoBlk]; simp [u8L, hy]
  have hgd : Tryz.prog.eqGuardType Tryz.prog.depth 165 = false := by kernel_rfl
  go_enter Tryz.func186, Tryz.ntmps186
  go_wp2_with (fail)
  have ba : Below w.heap.size w (w.alloc (.cells (u8L xs).toArray 165)) := (Below.refl _ _).alloc (Nat.le_refl _) _
  have ra := range_alloc w 165 xs
  generalize w.alloc (.cells (u8L xs).toArray 165) = wa at ba ra ⊢
  have rb := (h.below ba).lastAt
  have rS : wa.drew.rangeAt w.heap.size 0 (u8L xs) ∧ wa.drew.rangeAt g (o + 8) (u8L L) := by simp only [World.rangeAt_drew]; exact ⟨ra, rb⟩
  refine wp_region_noPanic ?_
  refine wp_region_held_drew (S := fun w' => w'.rangeAt w.heap.size 0 (u8L xs) ∧ w'.rangeAt g (o + 8) (u8L L)) (by kernel_rfl) rS (fun hHeld => ?_)
  refine wpAnyH_take (i := 0) rfl (by kernel_rfl) (by kernel_rfl) (by kernel_rfl) (fun _ _ _ h => h) (yieldsIf_load_mid (by rfl) _ _ rfl _ _ rfl (u8L xs) _ (fun _ hw => hw.1) Tryz.underlying165 rfl hsz) hHeld ?_
  simp only [Act.put, List.getElem_toArray, List.getElem_cons_zero, List.setIfInBounds_toArray, List.set_cons_zero, List.set_cons_succ]
  refine wpAnyH_take (i := 1) (v := .pointer (some ⟨g, o, none⟩)) rfl (by kernel_rfl) (by kernel_rfl) (by kernel_rfl) (fun _ _ _ h => h) (Or.inl ⟨by rfl, fun w hSw => by (try dsimp only at hSw); go_simp⟩) hHeld ?_
  simp only [Act.put, List.getElem_toArray, List.getElem_cons_zero, List.getElem_cons_succ, List.setIfInBounds_toArray, List.set_cons_zero, List.set_cons_succ]
  refine wpAnyH_take (i := 2) (v := .pointer (some ⟨g, o, none⟩)) rfl (by kernel_rfl) (by kernel_rfl) (by kernel_rfl) (fun _ _ _ h => h) (Or.inl ⟨by rfl, fun w hSw => by (try dsimp only at hSw); go_simp⟩) hHeld ?_
  simp only [Act.put, List.getElem_toArray, List.getElem_cons_zero, List.getElem_cons_succ, List.setIfInBounds_toArray, List.set_cons_zero, List.set_cons_succ]
  refine wpAnyH_take (i := 3) (v := .pointer (some ⟨g, o + 8, none⟩)) rfl (by kernel_rfl) (by kernel_rfl) (by kernel_rfl) (fun _ _ _ h => h) (Or.inl ⟨by rfl, fun w hSw => by (try dsimp only at hSw); go_simp⟩) hHeld ?_
  simp only [Act.put, List.getElem_toArray, List.getElem_cons_zero, List.getElem_cons_succ, List.setIfInBounds_toArray, List.set_cons_zero, List.set_cons_succ]
  refine wpAnyH_take (i := 4) rfl (by kernel_rfl) (by kernel_rfl) (by kernel_rfl) (fun _ _ _ h => h) (yieldsIf_load_mid (by rfl) _ _ rfl _ _ rfl (u8L L) _ (fun _ hw => hw.2) Tryz.underlying165 rfl hsz') hHeld ?_
  simp only [Act.put, List.getElem_toArray, List.getElem_cons_zero, List.getElem_cons_succ, List.setIfInBounds_toArray, List.set_cons_zero, List.set_cons_succ]
  refine wpAnyH_take (i := 5) (v := .bool (!decide (xs = L))) rfl (by kernel_rfl) (by kernel_rfl) (by kernel_rfl) (fun _ _ _ h => h) (Or.inl ⟨by rfl, fun w hSw => by (try dsimp only at hSw); go_simp⟩) hHeld ?_
  simp only [Act.put, List.getElem_toArray, List.getElem_cons_zero, List.getElem_cons_succ, List.setIfInBounds_toArray, List.set_cons_zero, List.set_cons_succ]
  refine wpAnyH_done (by kernel_rfl) ?_ _
  refine NoPanic.normal ?_
  have bd : Below w.heap.size w wa.drew := ba.drew
  have hKX : ∀ X, Below w.heap.size w X → KeysIs X := fun X hX t ht => (hX.cell (p := ⟨2, t, none⟩) (show 2 < w.heap.size by omega)).trans (hK t ht)
  by_cases hxl : xs = L
  · subst hxl
    have hd : (!decide (xs = xs)) = false := by simp
    rw [hd]
    go_wp2_with (fail)
    refine (mix_any ty n o A B lo g S xs _ _ hS (spreadN_lt (wsOf_lt hb)) (h.below bd) (hKX _ bd) hlo).mono ?_
    rintro e w2 ⟨rfl, h2, g2⟩
    go_wp2
    go_end0
    exact ⟨rfl, h2, grown_trans (below_grown bd) g2⟩
  · have hd : (!decide (xs = L)) = true := by simp [hxl]
    rw [hd]
    go_wp2_with (fail)
    have hd2 : Below wa.heap.size wa wa.drew := (Below.refl _ _).drew
    generalize wa.drew = wd at bd rS hd2 ⊢
    have rS2 : wd.drew.rangeAt w.heap.size 0 (u8L xs) := by simp only [World.rangeAt_drew]; exact rS.1
    refine wp_region_noPanic ?_
    refine wp_region_held_drew (S := fun w' => w'.rangeAt w.heap.size 0 (u8L xs) ∧ True) (by kernel_rfl) ⟨rS2, trivial⟩ (fun hHeld => ?_)
    refine wpAnyH_take (i := 0) (v := .pointer (some ⟨g, o, none⟩)) rfl (by kernel_rfl) (by kernel_rfl) (by kernel_rfl) (fun _ _ _ h => h) (Or.inl ⟨by rfl, fun w hSw => by (try dsimp only at hSw); go_simp⟩) hHeld ?_
    simp only [Act.put, List.getElem_toArray, List.getElem_cons_zero, List.setIfInBounds_toArray, List.set_cons_zero, List.set_cons_succ]
    refine wpAnyH_take (i := 1) (v := .pointer (some ⟨g, o, none⟩)) rfl (by kernel_rfl) (by kernel_rfl) (by kernel_rfl) (fun _ _ _ h => h) (Or.inl ⟨by rfl, fun w hSw => by (try dsimp only at hSw); go_simp⟩) hHeld ?_
    simp only [Act.put, List.getElem_toArray, List.getElem_cons_zero, List.getElem_cons_succ, List.setIfInBounds_toArray, List.set_cons_zero, List.set_cons_succ]
    refine wpAnyH_take (i := 2) rfl (by kernel_rfl) (by kernel_rfl) (by kernel_rfl) (fun _ _ _ h => h) (yieldsIf_load_mid (by rfl) _ _ rfl _ _ rfl (u8L xs) _ (fun _ hw => hw.1) Tryz.underlying165 rfl hsz) hHeld ?_
    simp only [Act.put, List.getElem_toArray, List.getElem_cons_zero, List.getElem_cons_succ, List.setIfInBounds_toArray, List.set_cons_zero, List.set_cons_succ]
    refine wpAnyH_take (i := 3) rfl (by kernel_rfl) (by kernel_rfl) (by kernel_rfl) (fun _ _ _ h => h) (yieldsIf_load_mid (by rfl) _ _ rfl _ _ rfl (u8L xs) _ (fun _ hw => hw.1) Tryz.underlying165 rfl hsz) hHeld ?_
    simp only [Act.put, List.getElem_toArray, List.getElem_cons_zero, List.getElem_cons_succ, List.setIfInBounds_toArray, List.set_cons_zero, List.set_cons_succ]
    have e0 : Below wd.heap.size wd wd.drew := (Below.refl _ _).drew
    have ls : w.heap.size < wd.heap.size := World.block_lt_of_cell? wd ⟨w.heap.size, 0 + 0, none⟩ (rS.1 0 (.int .u8 (xs.getD 0 0)) (by simp [u8L, List.getElem?_eq_getElem (show 0 < xs.length by omega)]))
    obtain ⟨W', hW'⟩ : ∃ W', W' = spreadN (wsOf xs) := ⟨_, rfl⟩
    have hWl : W'.length = 64 := by rw [hW']; exact spreadN_length (wsOf_length xs)
    have hWt : ∀ x ∈ W', x < 4294967296 := by rw [hW']; exact spreadN_lt (wsOf_lt hb)
    have CS := fun w => spread_any xs w hx hb
    rw [← hW'] at CS
    replace hW' : Hid (W' = spreadN (wsOf xs)) := hW'
    refine wpAnyH_ready (rs := [4]) (by kernel_rfl) (by simp) ?_
    refine AllReadyH.cons rfl (fun K hK => ?_) AllReadyH.nil
    go_simp
    refine (CS _).mono ?_
    rintro e w1 ⟨rfl, b1⟩
    have b1' : Below wd.heap.size wd w1 := below_on e0 b1
    go_wp2_with (fail)
    refine hK.out _ _ ⟨range_below rS.1 b1' ls, trivial⟩ (fun hHeld => ?_)
    clear hK K
    refine wpAnyH_take (i := 5) (v := .pointer (some ⟨g, o, none⟩)) rfl (by kernel_rfl) (by kernel_rfl) (by kernel_rfl) (fun _ _ _ h => h) (Or.inl ⟨by rfl, fun w hSw => by (try dsimp only at hSw); go_simp⟩) hHeld ?_
    simp only [Act.put, List.getElem_toArray, List.getElem_cons_zero, List.getElem_cons_succ, List.setIfInBounds_toArray, List.set_cons_zero, List.set_cons_succ]
    refine wpAnyH_take (i := 6) (v := .pointer (some ⟨g, o + 8, none⟩)) rfl (by kernel_rfl) (by kernel_rfl) (by kernel_rfl) (fun _ _ _ h => h) (Or.inl ⟨by rfl, fun w hSw => by (try dsimp only at hSw); go_simp⟩) hHeld ?_
    simp only [Act.put, List.getElem_toArray, List.getElem_cons_zero, List.getElem_cons_succ, List.setIfInBounds_toArray, List.set_cons_zero, List.set_cons_succ]
    have hH := (h.below bd).below b1'
    have hp := hH.putLast hx
    have ht1 : w1.there g (o + 8) (u8L xs).toArray.size := by rw [show (u8L xs).toArray.size = 64 by simp [u8L, hx]]; exact hH.there 8 64 (by omega)
    have hi1 : (Tryz.prog.info? 165).map (·.size) = some (u8L xs).toArray.size := by rw [infoBlk]; simp [u8L, hx]
    obtain ⟨w2, hw2⟩ : ∃ w2, w2 = w1.setCells g (o + 8) (u8L xs) := ⟨_, rfl⟩
    rw [← hw2] at hp
    have hS2 : w2.rangeAt w.heap.size 0 (u8L xs) := by rw [hw2]; exact World.rangeAt_setCells_apart hHeld.1 _ _ _ (.inl (by omega))
    have hq := hp.1.putSpread hWl
    have hS3 : (w2.setCells g (o + 72) (u32L W')).rangeAt w.heap.size 0 (u8L xs) := World.rangeAt_setCells_apart hS2 _ _ _ (.inl (by omega))
    have ht2 : w2.there g (o + 72) (u32L W').toArray.size := by rw [show (u32L W').toArray.size = 64 by simp [u32L, hWl]]; exact hp.1.there 72 64 (by omega)
    have hi2 : (Tryz.prog.info? 166).map (·.size) = some (u32L W').toArray.size := by rw [infoW64]; simp [u32L, hWl]
    refine wpAnyH_ready (rs := [7]) (by kernel_rfl) (by simp) ?_
    refine AllReadyH.cons rfl (fun K hK => ?_) AllReadyH.nil
    rw [if_pos (by rfl)]
    refine wp_store_mid _ _ _ rfl g (o + 8) (u8L xs).toArray rfl rfl ht1 hi1 (all_oneCell_toArray (u8L_one xs)) ?_
    change K _ (w1.setCells g (o + 8) (u8L xs))
    rw [← hw2]
    clear hw2
    refine hK.out _ _ ⟨hS2, trivial⟩ (fun hHeld2 => ?_)
    clear hK K
    simp only [Act.put, List.getElem_toArray, List.getElem_cons_zero, List.getElem_cons_succ]
    refine wpAnyH_take (i := 8) (v := .pointer (some ⟨g, o, none⟩)) rfl (by kernel_rfl) (by kernel_rfl) (by kernel_rfl) (fun _ _ _ h => h) (Or.inl ⟨by rfl, fun w hSw => by (try dsimp only at hSw); go_simp⟩) hHeld2 ?_
    simp only [Act.put, List.getElem_toArray, List.getElem_cons_zero, List.getElem_cons_succ, List.setIfInBounds_toArray, List.set_cons_zero, List.set_cons_succ]
    refine wpAnyH_take (i := 9) (v := .pointer (some ⟨g, o + 72, none⟩)) rfl (by kernel_rfl) (by kernel_rfl) (by kernel_rfl) (fun _ _ _ h => h) (Or.inl ⟨by rfl, fun w hSw => by (try dsimp only at hSw); go_simp⟩) hHeld2 ?_
    simp only [Act.put, List.getElem_toArray, List.getElem_cons_zero, List.getElem_cons_succ, List.setIfInBounds_toArray, List.set_cons_zero, List.set_cons_succ]
    refine wpAnyH_ready (rs := [10]) (by kernel_rfl) (by simp) ?_
    refine AllReadyH.cons rfl (fun K hK => ?_) AllReadyH.nil
    rw [if_pos (by rfl)]
    refine wp_store_mid _ _ _ rfl g (o + 72) (u32L W').toArray rfl rfl ht2 hi2 (all_oneCell_toArray (u32L_one _)) ?_
    change K _ (w2.setCells g (o + 72) (u32L W'))
    refine hK.out _ _ ⟨hS3, trivial⟩ (fun _ => ?_)
    clear hK K
    simp only [Act.put, List.getElem_toArray, List.getElem_cons_zero, List.getElem_cons_succ]
    refine wpAnyH_done (by kernel_rfl) ?_ _
    refine NoPanic.normal ?_
    have hgr : w.grownBy (w2.setCells g (o + 72) (u32L W')) (some g) := grown_trans (below_grown (below_on bd b1')) (grown_trans hp.2 hq.2)
    have hHq := hq.1
    generalize w2.setCells g (o + 72) (u32L W') = w5 at hgr hHq ⊢
    have hK5 : KeysIs w5 := fun t ht => by
      have hk0 := hK t ht
      have hblk := hgr.block 2 (show 2 < w.heap.size by omega) (by simp; omega)
      rw [← hk0]
      simp only [World.cell?, hblk]
    clear hp hq ht1 ht2 hH hHeld hHeld2 hS2 hS3
    go_wp2_with (fail)
    refine (mix_any ty n o A B lo g S xs _ _ hS hWt hHq hK5 hlo).mono ?_
    rintro e w6 ⟨rfl, h6, g6⟩
    go_wp2
    go_end0
    refine ⟨rfl, ?_, grown_trans hgr g6⟩
    unfold blockN
    rw [← hW'.out]
    exact h6
def wordsN (ys : List Int) : List Nat := ys.map wordN
theorem wordsN_length (ys : List Int) : (wordsN ys).length = ys.length := by simp [wordsN]
theorem wordsN_lt (ys : List Int) : ∀ x ∈ wordsN ys, x < 4294967296 := by
  intro x hx
  simp only [wordsN, List.mem_map] at hx
  obtain ⟨y, _, rfl⟩ := hx
  exact wordN_lt y
theorem wordsN_getD (ys : List Int) (i : Nat) : (wordsN ys).getD i 0 = wordN (ys.getD i 0) := by
  simp only [wordsN, List.getD_eq_getElem?_getD, List.getElem?_map]
  cases ys[i]? <;> rfl
def hbN (n m : Nat) : Nat := if n = 8 ∧ m = 64 then 8 else 0
def hbL (ys xs : List Int) : List Int := if ys.length = 8 ∧ xs.length = 64 then natsL (blockN (wsOf xs) (wordsN ys)) else []
theorem word_is (y : Int) (s : Nat) (h : wordN y = s) (w : World) : Calls Tryz.prog 157 #[.int .i64 y] w fun e w' => e = .returned (.int .i64 (s : Int)) ∧ w' = w := by
  subst h
  rw [wordN_eq]
  exact specWord_same y w
theorem take_next (L : List Int) (k : Nat) (u : Int) (hk : k < L.length) (hu : u = L.getD k 0) : L.take k ++ [u] = L.take (k + 1) := by
  subst hu
  rw [List.take_succ_eq_append_getElem hk]
  simp [List.getElem?_eq_getElem hk]
theorem addL_getD (xs ys : List Nat) (k : Nat) (hk : k < 8) : (addL xs ys).getD k 0 = (xs.getD k 0 + ys.getD k 0) % 4294967296 := by
  simp [addL, hk]
set_option maxHeartbeats 16000000 in
theorem specHashBlock_yes (p q : Option Addr) (c d : Nat) (ys xs : List Int) (w : World) (hx : xs.length = 64) (h : IntsIn w p 8 ys) (h' : BytesIn w q 64 xs) (hb : ∀ x ∈ xs, 0 ≤ x ∧ x < 256) :
    Calls Tryz.prog 217 #[.slice p 8 c, .slice q 64 d] w fun e w' => ∃ p' c', e = .returned (.slice p' 8 c') ∧ OwnI 3 w' w.heap.size w'.heap.size (.slice p' 8 c') 8 (natsL (blockN (wsOf xs) (wordsN ys))) ∧ Below w.heap.size w w' := by
  obtain ⟨i0, hi, hz0, hz1, hz2⟩ := info_parts infoInt
  have C := fun w h => l3More_any q d xs w hx h hb
  have hWl := spreadN_length (wsOf_length xs)
  have hWt := spreadN_lt (wsOf_lt hb)
  have hblock : Hid (blockN (wsOf xs) (wordsN ys) = addL (wordsN ys) (roundsN (spreadN (wsOf xs)) (stOf (wordsN ys)) 64).list) := rfl
  obtain ⟨L, hL⟩ : ∃ L, L = blockN (wsOf xs) (wordsN ys) := ⟨_, rfl⟩
  rw [← hL] at hblock ⊢
  clear hL
  generalize spreadN (wsOf xs) = W at C hWl hWt hblock
  obtain ⟨b, o, rfl, hcell⟩ := h (by omega)
  have hblt : b < w.heap.size := World.block_lt_of_cell? w ⟨b, o + 0, none⟩ (hcell 0 (by omega))
  have hok := stOf_ok (wordsN_lt ys)
  have hst : Hid (stOf (wordsN ys) = ⟨wordN (ys.getD 0 0), wordN (ys.getD 1 0), wordN (ys.getD 2 0), wordN (ys.getD 3 0), wordN (ys.getD 4 0), wordN (ys.getD 5 0), wordN (ys.getD 6 0), wordN (ys.getD 7 0)⟩) := by
    simp only [Hid, stOf, wordsN_getD]
  go_enter Tryz.func217, Tryz.ntmps217
  go_wp2_with (fail)
  refine (C _ h').mono ?_
  rintro e w1 ⟨p1, c1, rfl, r1, b1⟩
  clear C h'
  go_wp2_with (fail)
  refine (l3Table_any _).mono ?_
  rintro e w2 ⟨p2, c2, rfl, r2, b2⟩
  have bel : Below w.heap.size w w2 := below_on b1 b2
  have inW := (r1.on b2).ints
  have inK := r2.ints
  clear r1 r2 b1 b2
  have hsz := bel.size
  have cs : ∀ i, i < 8 → w2.cell? ⟨b, o + i, none⟩ = some (.int .i64 (ys.getD i 0)) := fun i hi => (bel.cell (p := ⟨b, o + i, none⟩) hblt).trans (hcell i hi)
  have y0 := cs 0 (by omega)
  have y1 := cs 1 (by omega)
  have y2 := cs 2 (by omega)
  have y3 := cs 3 (by omega)
  have y4 := cs 4 (by omega)
  have y5 := cs 5 (by omega)
  have y6 := cs 6 (by omega)
  have y7 := cs 7 (by omega)
  clear cs
  replace hcell : Hid (∀ i, i < 8 → w.cell? ⟨b, o + i, none⟩ = some (.int .i64 (ys.getD i 0))) := hcell
  have cw := fun i => word_is (ys.getD i 0) _ rfl
  have w0' := cw 0
  have w1' := cw 1
  have w2' := cw 2
  have w3' := cw 3
  have w4' := cw 4
  have w5' := cw 5
  have w6' := cw 6
  have w7' := cw 7
  clear cw
  rw [hst.out] at hok
  generalize hs0 : wordN (ys.getD 0 0) = s0 at w0' hst hok
  generalize hs1 : wordN (ys.getD 1 0) = s1 at w1' hst hok
  generalize hs2 : wordN (ys.getD 2 0) = s2 at w2' hst hok
  generalize hs3 : wordN (ys.getD 3 0) = s3 at w3' hst hok
  generalize hs4 : wordN (ys.getD 4 0) = s4 at w4' hst hok
  generalize hs5 : wordN (ys.getD 5 0) = s5 at w5' hst hok
  generalize hs6 : wordN (ys.getD 6 0) = s6 at w6' hst hok
  generalize hs7 : wordN (ys.getD 7 0) = s7 at w7' hst hok
  clear hs0 hs1 hs2 hs3 hs4 hs5 hs6 hs7
  generalize ys.getD 0 0 = z0 at y0 w0'
  generalize ys.getD 1 0 = z1 at y1 w1'
  generalize ys.getD 2 0 = z2 at y2 w2'
  generalize ys.getD 3 0 = z3 at y3 w3'
  generalize ys.getD 4 0 = z4 at y4 w4'
  generalize ys.getD 5 0 = z5 at y5 w5'
  generalize ys.getD 6 0 = z6 at y6 w6'
  generalize ys.getD 7 0 = z7 at y7 w7'
  simp only [Nat.add_zero] at y0
  go_wp2_with (fail)
  go_quiet (first | (go_at_call_of 157 z0; exact Calls.quiet_of_same (w0' _)) | (go_at_call_of 157 z1; exact Calls.quiet_of_same (w1' _)) | (go_at_call_of 157 z2; exact Calls.quiet_of_same (w2' _)) | (go_at_call_of 157 z3; exact Calls.quiet_of_same (w3' _)))
  clear w0' w1' w2' w3' y0 y1 y2 y3
  obtain ⟨w3, hw3⟩ : ∃ w3, w3 = w2.drewN nq := ⟨_, rfl⟩
  rw [← hw3]
  have bq : Below w2.heap.size w2 w3 := by rw [hw3]; exact below_drewN (Below.refl _ _) _
  clear hw3
  have hb2 : b < w2.heap.size := by omega
  replace y4 := (bq.cell (p := ⟨b, o + 4, none⟩) hb2).trans y4
  replace y5 := (bq.cell (p := ⟨b, o + 5, none⟩) hb2).trans y5
  replace y6 := (bq.cell (p := ⟨b, o + 6, none⟩) hb2).trans y6
  replace y7 := (bq.cell (p := ⟨b, o + 7, none⟩) hb2).trans y7
  replace inW := in_belowI inW bq
  replace inK := in_belowI inK bq
  replace bel := below_on bel bq
  clear bq hb2 hsz
  go_wp2_with (fail)
  go_quiet (first | (go_at_call_of 157 z4; exact Calls.quiet_of_same (w4' _)) | (go_at_call_of 157 z5; exact Calls.quiet_of_same (w5' _)) | (go_at_call_of 157 z6; exact Calls.quiet_of_same (w6' _)) | (go_at_call_of 157 z7; exact Calls.quiet_of_same (w7' _)))
  clear w4' w5' w6' w7' y4 y5 y6 y7
  obtain ⟨w4, hw4⟩ : ∃ w4, w4 = w3.drewN nq := ⟨_, rfl⟩
  rw [← hw4]
  have bq2 : Below w3.heap.size w3 w4 := by rw [hw4]; exact below_drewN (Below.refl _ _) _
  clear hw4
  go_wp2_with (fail)
  replace inW := in_belowI inW bq2
  replace inK := in_belowI inK bq2
  replace bel := below_on bel bq2
  have hsz := bel.size
  obtain ⟨bW, oW, rfl, cW⟩ := inW (by omega)
  obtain ⟨bK, oK, rfl, cK⟩ := inK (by omega)
  have hbW : bW < w4.heap.size := World.block_lt_of_cell? w4 ⟨bW, oW + 0, none⟩ (cW 0 (by omega))
  have hbK : bK < w4.heap.size := World.block_lt_of_cell? w4 ⟨bK, oK + 0, none⟩ (cK 0 (by omega))
  have HC : Hid (∀ i, i < 8 → w4.cell? ⟨b, o + i, none⟩ = some (.int .i64 (ys.getD i 0))) := fun i hi => (bel.cell (p := ⟨b, o + i, none⟩) hblt).trans (hcell.out i hi)
  clear inW inK bq2 hcell
  have hr0 : Hid (roundsN W (stOf (wordsN ys)) 0 = ⟨s0, s1, s2, s3, s4, s5, s6, s7⟩) := hst.out
  have hrok : ∀ t, (roundsN W (stOf (wordsN ys)) t).ok := roundsN_ok W (by rw [hst.out]; exact hok)
  clear hst hok
  go_loopw [7, 8, 9, 10, 11, 12, 13, 14, 15] (fun a b c d e f g h i wr => ∃ (t : Nat) (va vb vc vd ve vf vg vh : Nat), t ≤ 64 ∧ i = .int .i64 t ∧ a = .int .i64 va ∧ b = .int .i64 vb ∧ c = .int .i64 vc ∧ d = .int .i64 vd ∧ e = .int .i64 ve ∧ f = .int .i64 vf ∧ g = .int .i64 vg ∧ h = .int .i64 vh ∧ Hid (roundsN W (stOf (wordsN ys)) t = ⟨va, vb, vc, vd, ve, vf, vg, vh⟩) ∧ Below w4.heap.size w4 wr)
    (fun _ _ _ _ _ _ _ _ i _ => 64 - (intOf i).toNat)
  case atStart => exact ⟨0, s0, s1, s2, s3, s4, s5, s6, s7, by omega, rfl, rfl, rfl, rfl, rfl, rfl, rfl, rfl, rfl, hr0, Below.refl _ _⟩
  case round =>
    clear hr0
    obtain ⟨t, va, vb, vc, vd, ve, vf, vg, vh, ht, rfl, rfl, rfl, rfl, rfl, rfl, rfl, rfl, rfl, hr, hbl⟩ := hrel
    have hok := hrok t
    rw [hr.out] at hok
    obtain ⟨o1, o2, o3, o4, o5, o6, o7, o8⟩ := hok
    simp only at o1 o2 o3 o4 o5 o6 o7 o8
    by_cases hlt : t < 64
    · have kc := (hbl.cell (p := ⟨bK, oK + t, none⟩) hbK).trans (cK t hlt)
      have wc := (hbl.cell (p := ⟨bW, oW + t, none⟩) hbW).trans (cW t hlt)
      rw [natsL_getD] at kc wc
      have kl := getD_lt keysL_lt (by decide) t
      have wl := getD_lt hWt (by decide) t
      have HR : Hid (roundsN W (stOf (wordsN ys)) (t + 1) = stepN ⟨va, vb, vc, vd, ve, vf, vg, vh⟩ (keysL.getD t 0) (W.getD t 0)) := by rw [Hid, ← hr.out]; rfl
      simp only [stepN, t1N, t2N] at HR
      generalize keysL.getD t 0 = kt at kc kl HR
      generalize W.getD t 0 = wt at wc wl HR
      have hch := i64_ch o5 o6 o7
      have hmj := i64_maj o1 o2 o3
      have lch := chN_lt (e := ve) o6 o7
      have lmj := majN_lt (a := va) o2 o3
      have C1 := fun w => l3Mix_S1 ve w o5
      have C0 := fun w => l3Mix_S0 va w o1
      have n1 := greatN_lt (a := 6) (b := 11) (c := 25) o5 (by decide) (by decide) (by decide)
      have n0 := greatN_lt (a := 2) (b := 13) (c := 22) o1 (by decide) (by decide) (by decide)
      generalize chN ve vf vg = ch at hch lch HR
      generalize majN va vb vc = mj at hmj lmj HR
      generalize greatN ve 6 11 25 = r1 at C1 n1 HR
      generalize greatN va 2 13 22 = r0 at C0 n0 HR
      obtain ⟨E, hE⟩ : ∃ E : Nat, E = (vd + (vh + r1 + ch + kt + wt)) % 4294967296 := ⟨_, rfl⟩
      obtain ⟨A, hA⟩ : ∃ A : Nat, A = (vh + r1 + ch + kt + wt + (r0 + mj)) % 4294967296 := ⟨_, rfl⟩
      rw [← hE, ← hA] at HR
      have CE : ∀ w, Calls Tryz.prog 157 #[.int .i64 ((vd : Int) + ((vh : Int) + r1 + ch + kt + wt))] w fun e w' => e = .returned (.int .i64 (E : Int)) ∧ w' = w := word_is _ _ (by unfold wordN; omega)
      have CA : ∀ w, Calls Tryz.prog 157 #[.int .i64 ((vh : Int) + r1 + ch + kt + wt + ((r0 : Int) + mj))] w fun e w' => e = .returned (.int .i64 (A : Int)) ∧ w' = w := word_is _ _ (by unfold wordN; omega)
      clear hE hA hr
      go_wp2_with (fail)
      go_quiet ((go_at_call 230; exact Calls.quiet_of (C1 _)))
      go_wp2_with (fail)
      refine (C0 _).mono ?_
      rintro e w3 ⟨rfl, dn, rfl⟩
      go_wp2_with (fail)
      refine (CE _).mono ?_
      rintro e w3 ⟨rfl, rfl⟩
      go_wp2_with (fail)
      refine (CA _).mono ?_
      rintro e w3 ⟨rfl, rfl⟩
      go_wp2
      go_roundw
      case rel => exact ⟨t + 1, A, va, vb, vc, E, ve, vf, vg, by omega, by go_num, rfl, rfl, rfl, rfl, rfl, rfl, rfl, rfl, HR, below_drewN hbl _⟩
      case measure => simp [intOf]; omega
    · have e64 : t = 64 := by omega
      rw [e64] at hr
      clear e64
      rw [hr.out] at hblock
      simp only [HSt.list] at hblock
      have hblock2 : Hid (L = addL (wordsN ys) [va, vb, vc, vd, ve, vf, vg, vh]) := hblock.out
      clear hblock hr cK cW hrok
      have hLl : L.length = 8 := by rw [hblock2.out, addL_length]
      go_wp2_with (fail)
      obtain ⟨w5, hw5⟩ : ∃ w5, w5 = wr.alloc (.cells #[.int .i64 (va : Int), .int .i64 (vb : Int), .int .i64 (vc : Int), .int .i64 (vd : Int), .int .i64 (ve : Int), .int .i64 (vf : Int), .int .i64 (vg : Int), .int .i64 (vh : Int)] 3) := ⟨_, rfl⟩
      have hnow : OwnI 3 w5 wr.heap.size (wr.heap.size + 1) (.slice (some ⟨wr.heap.size, 0, none⟩) 8 8) 8 (natsL [va, vb, vc, vd, ve, vf, vg, vh]) := by
        rw [hw5]
        exact ownsI_lit wr 3 _ 8 _ (by simp [natsL]) rfl (by unfold maxLen; omega)
      have hb5 : Below w4.heap.size w4 w5 := by rw [hw5]; exact hbl.alloc hbl.size _
      have hs5 : w5.heap.size = wr.heap.size + 1 := by rw [hw5]; simp
      have hG : wr.heap.size < w5.heap.size := by omega
      rw [← hw5]
      clear hw5
      obtain ⟨b0, o0, hp0, hnc⟩ := hnow.ints (by omega)
      simp only [Option.some.injEq, Addr.mk.injEq, and_true] at hp0
      obtain ⟨rfl, rfl⟩ := hp0
      clear hnow
      replace hnc : Hid (∀ i, i < 8 → w5.cell? ⟨wr.heap.size, 0 + i, none⟩ = some (.int .i64 ((natsL [va, vb, vc, vd, ve, vf, vg, vh]).getD i 0))) := hnc
      generalize wr.heap.size = G at hG hnc hs5 ⊢
      rw [← hs5]
      clear hs5
      have HC5 : Hid (∀ i, i < 8 → w5.cell? ⟨b, o + i, none⟩ = some (.int .i64 (ys.getD i 0))) := fun i hi => (hb5.cell (p := ⟨b, o + i, none⟩) (show b < w4.heap.size by omega)).trans (HC.out i hi)
      have bel5 : Below w.heap.size w w5 := below_on bel hb5
      have hsz5 := bel5.size
      have hb5' : b < w5.heap.size := by omega
      have hwl : ∀ x ∈ [va, vb, vc, vd, ve, vf, vg, vh], x < 4294967296 := by
        intro x hx
        simp only [List.mem_cons, List.not_mem_nil, or_false] at hx
        omega
      generalize [va, vb, vc, vd, ve, vf, vg, vh] = now at hblock2 hnc hwl
      clear hbl hb5 HC bel hsz hbW hbK o1 o2 o3 o4 o5 o6 o7 o8 hWl hWt
      go_loopw [21, 22] (fun v i w6 => ∃ k : Nat, k ≤ 8 ∧ i = .int .i64 k ∧ w6.ownsRow w5.heap.size 3 1 v k (((natsL L).take k).map (Value.int .i64)) ∧ Below w5.heap.size w5 w6)
        (fun _ i _ => 8 - (intOf i).toNat)
      case atStart => exact ⟨0, by omega, rfl, World.ownsRow_made w5 #[] 0 (Nat.le_refl _) (by unfold maxLen; omega) rfl, (Below.refl _ _).alloc (Nat.le_refl _) _⟩
      case round =>
        obtain ⟨k, hk, rfl, hown, hbel⟩ := hrel
        have hsz6 := hbel.size
        by_cases hlt : k < 8
        · have cn := (hbel.cell (p := ⟨G, 0 + k, none⟩) hG).trans (hnc.out k hlt)
          have cy := (hbel.cell (p := ⟨b, o + k, none⟩) hb5').trans (HC5.out k hlt)
          rw [natsL_getD, Nat.zero_add] at cn
          have HN : Hid (∀ u : Nat, u = (wordN (ys.getD k 0) + now.getD k 0) % 4294967296 → (natsL L).take k ++ [(u : Int)] = (natsL L).take (k + 1)) := by
            intro u hu
            refine take_next _ _ _ (by rw [natsL_length, hLl]; exact hlt) ?_
            rw [natsL_getD, hblock2.out, addL_getD _ _ _ hlt, wordsN_getD, ← hu]
          have la := getD_lt hwl (by decide) k
          have CY := word_is (ys.getD k 0) _ rfl
          have ls := wordN_lt (ys.getD k 0)
          generalize wordN (ys.getD k 0) = s at HN CY ls
          generalize ys.getD k 0 = y at cy CY
          generalize now.getD k 0 = a at cn la HN
          obtain ⟨u, hu⟩ : ∃ u : Nat, u = (s + a) % 4294967296 := ⟨_, rfl⟩
          replace HN : Hid ((natsL L).take k ++ [(u : Int)] = (natsL L).take (k + 1)) := HN.out u hu
          have CU : ∀ w, Calls Tryz.prog 157 #[.int .i64 ((a : Int) + (s : Int))] w fun e w' => e = .returned (.int .i64 (u : Int)) ∧ w' = w := word_is _ _ (by unfold wordN; omega)
          have q1 : IntKind.i64.wrap ((a : Int) + (s : Int)) = (a : Int) + (s : Int) := by rw [IntKind.wrap_i64]; omega
          clear hu hblock2
          have HK : ∀ w', Below w5.heap.size wr w' → w'.cell? ⟨G, k, none⟩ = some (.int .i64 (a : Int)) ∧ w'.cell? ⟨b, o + k, none⟩ = some (.int .i64 y) := fun w' hB => ⟨(hB.cell (p := ⟨G, k, none⟩) hG).trans cn, (hB.cell (p := ⟨b, o + k, none⟩) hb5').trans cy⟩
          go_wp2_with (fail)
          go_region_held3 (fun w' => w'.cell? ⟨G, k, none⟩ = some (.int .i64 (a : Int)) ∧ w'.cell? ⟨b, o + k, none⟩ = some (.int .i64 y)) (first | exact HK _ (Below.refl _ _) | exact HK _ (Below.refl _ _).drew | exact HK _ ((Below.refl _ _).drew.alloc hsz6 _) | exact HK _ ((Below.refl _ _).alloc hsz6 _) | exact HK _ ((Below.refl _ _).alloc hsz6 _).drew | exact HK _ hb1 | exact HK _ hb1.drew)
            (first | (go_at_call_of 157 y; refine (CY _).mono ?_; rintro e w7 ⟨rfl, rfl⟩) | (go_at_call_of 157 a; refine (CU _).mono ?_; rintro e w7 ⟨rfl, rfl⟩) | (refine step_pushI hi hz0 hz1 hz2 (.tmp 138) (.tmp 150) 52 Tryz.underlying52 _ hown (by omega) hsz6 (by rfl) (by rfl) (by rfl) (by rfl) ?_; intro g cap w8 ho1 hb1))
          rw [HN.out] at ho1
          go_wp2
          go_roundw
          case rel => exact ⟨k + 1, by omega, by go_num, ho1, hbel.trans hb1⟩
          case measure => simp [intOf]; omega
        · obtain rfl : k = 8 := by omega
          rw [List.take_of_length_le (by rw [natsL_length]; omega)] at hown
          obtain ⟨p', c', hv⟩ := owns_form hown
          subst hv
          go_wp2
          go_ret
          exact ⟨_, _, rfl, .of (owns_mono hown hsz5), below_on bel5 hbel⟩
end Go.Proofs.YtnpffnhiefgglaaGreatDoor
