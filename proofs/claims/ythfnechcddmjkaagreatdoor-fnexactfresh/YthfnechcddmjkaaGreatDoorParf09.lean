/-
  What the program's spreadBlock answers at any 64 bytes: their 64 words; condition: they are bytes.
-/
import Derived.Test.YthfnechcddmjkaaGreatDoorParf07
import Derived.Test.YthfnechcddmjkaaGreatDoorParf08
namespace Go.Proofs.YthfnechcddmjkaaGreatDoor
open Go.RowKit

def takenN (W : List Nat) (k : Nat) : List Nat := W.take k ++ List.replicate (64 - k) 0
theorem takenN_length {W : List Nat} (h : W.length = 64) (k : Nat) (hk : k ≤ 64) : (takenN W k).length = 64 := by simp [takenN, h]; omega
theorem takenN_getD {W : List Nat} (h : W.length = 64) (k j : Nat) (hk : k ≤ 64) (hj : j < k) : (takenN W k).getD j 0 = W.getD j 0 := by
  simp only [takenN, List.getD_eq_getElem?_getD]
  rw [List.getElem?_append_left (by rw [List.length_take]; omega), List.getElem?_take, if_pos hj]
theorem takenN_set {W : List Nat} (h : W.length = 64) (k : Nat) (hk : k < 64) (u : Nat) (hu : u = W.getD k 0) : (u32L (takenN W k)).set k (.int .u32 (u : Int)) = u32L (takenN W (k + 1)) := by
  subst hu
  have hk0 : k - (W.take k).length = 0 := by rw [List.length_take]; omega
  have e : List.replicate (64 - k) 0 = 0 :: List.replicate (64 - (k + 1)) 0 := by rw [show 64 - k = 64 - (k + 1) + 1 by omega, List.replicate_succ]
  have : (takenN W k).set k (W.getD k 0) = takenN W (k + 1) := by
    simp only [takenN]
    rw [e, List.set_append_right _ _ (by rw [List.length_take]; omega), hk0, List.set_cons_zero, List.take_succ_eq_append_getElem (by omega), List.append_assoc, List.getD_eq_getElem?_getD, List.getElem?_eq_getElem (by omega)]
    rfl
  rw [← this]
  simp [u32L, List.map_set]

theorem implWords64 (p : Option Addr) (c : Nat) (xs : List Int) (w : World) (hc : 64 ≤ c) (hx : xs.length = 64) (h : BytesIn w p 64 xs) (hb : ∀ x ∈ xs, 0 ≤ x ∧ x < 256) :
    Calls Tryz.prog 198 #[.slice p 64 c, .bool true] w fun e w' => ∃ p' c', e = .returned (.slice p' 16 c') ∧ OwnI 3 w' w.heap.size w'.heap.size (.slice p' 16 c') 16 (natsL (wsOf xs)) ∧ Below w.heap.size w w' := by
  rw [wsOf_nats]
  exact implWords_any p 64 c true xs w (by omega) hc hx h hb

theorem u8L_in (w : World) (ty : Nat) (xs : List Int) (n : Nat) (hx : xs.length = n) : BytesIn (w.alloc (.cells (u8L xs).toArray ty)) (some ⟨w.heap.size, 0, none⟩) n xs := by
  intro _
  refine ⟨w.heap.size, 0, rfl, fun i hi => ?_⟩
  rw [cell_of_row _ _ _ _ _ _ (heap_alloc_new w _)]
  simp [u8L, List.getElem?_eq_getElem (show i < xs.length by omega)]

theorem owns_range {w : World} {lo e g n : Nat} {vs : List Value} (h : w.ownsRow lo e 1 (.slice (some ⟨g, 0, none⟩) n n) n vs) : w.rangeAt g 0 vs := by
  intro j v hv
  have hl : vs.length = n := by simpa using h.1
  have hj : j < vs.length := (List.getElem?_eq_some_iff.1 hv).1
  rw [Nat.zero_add, h.cellAt j (by omega), hv]
theorem owns_there {w : World} {lo e g n : Nat} {vs : List Value} (h : w.ownsRow lo e 1 (.slice (some ⟨g, 0, none⟩) n n) n vs) : w.there g 0 n := by
  intro j hj
  have hl : vs.length = n := by simpa using h.1
  rw [Nat.zero_add, h.cellAt j (by omega), List.getElem?_eq_getElem (by omega)]
  exact ⟨rfl, h.frozenAt j⟩
theorem u32L_one (l : List Nat) : ∀ v ∈ u32L l, v.oneCell' = true := by
  intro v hv
  simp only [u32L, List.mem_map] at hv
  obtain ⟨n, _, rfl⟩ := hv
  rfl
def putL (xs : List Value) (o : Nat) : List Value → List Value
  | [] => xs
  | v :: r => putL (xs.set o v) (o + 1) r
theorem owns_put {lo e g n c : Nat} (vs : List Value) : ∀ (o : Nat) (w : World) (xs : List Value), w.ownsRow lo e 1 (.slice (some ⟨g, 0, none⟩) n c) n xs →
    (w.setCells g o vs).ownsRow lo e 1 (.slice (some ⟨g, 0, none⟩) n c) n (putL xs o vs) ∧ w.grownBy (w.setCells g o vs) (some g) := by
  induction vs with
  | nil => intro o w xs h; exact ⟨h, World.grownBy.refl _ _⟩
  | cons v r ih =>
    intro o w xs h
    have h1 := h.stored o v
    have h2 := ih (o + 1) _ _ h1.1
    exact ⟨h2.1, grown_trans h1.2 h2.2⟩
theorem putL_mid (A B C : List Value) : ∀ (B' : List Value), B'.length = B.length → putL (A ++ (B ++ C)) A.length B' = A ++ (B' ++ C) := by
  intro B'
  induction B' generalizing A B with
  | nil =>
    intro h
    obtain rfl : B = [] := List.eq_nil_of_length_eq_zero h.symm
    rfl
  | cons v r ih =>
    intro h
    cases B with
    | nil => simp at h
    | cons b B =>
      have := ih (A ++ [v]) B (by simpa using h)
      simp only [putL]
      rw [List.set_append_right _ _ (Nat.le_refl _), Nat.sub_self]
      simpa using this

theorem infoW64 : (Tryz.prog.info? 135).map (·.size) = some 64 := by kernel_rfl

set_option maxRecDepth 100000 in
set_option maxHeartbeats 1200000 in
theorem spread_any (xs : List Int) (w : World) (hx : xs.length = 64) (hb : ∀ x ∈ xs, 0 ≤ x ∧ x < 256) :
    Calls Tryz.prog 174 #[.agg (u8L xs).toArray] w fun e w' => e = .returned (.agg (u32L (spreadN (wsOf xs))).toArray) ∧ Below w.heap.size w w' := by
  have hwl := wsOf_length xs
  have hwt := wsOf_lt hb
  have C := fun p w h => implWords64 p 64 xs w (Nat.le_refl _) hx h hb
  have hWl := spreadN_length hwl
  have hWt := spreadN_lt hwt
  have HF : Hid (∀ t, t < 16 → (spreadN (wsOf xs)).getD t 0 = (wsOf xs).getD t 0) := fun t ht => spreadN_first hwl t ht
  have HX : Hid (∀ t, 16 ≤ t → t < 64 → (spreadN (wsOf xs)).getD t 0 = nextN (spreadN (wsOf xs)) t) := fun t h1 h2 => spreadN_next hwl t h1 h2
  generalize spreadN (wsOf xs) = W at hWl hWt HF HX ⊢
  generalize wsOf xs = ws at hwl hwt C HF
  go_enter Tryz.func174, Tryz.ntmps174
  go_wp2_with (fail)
  have ba : Below w.heap.size w (w.alloc (.cells (u8L xs).toArray 134)) := (Below.refl _ _).alloc (Nat.le_refl _) _
  have ia := u8L_in w 134 xs 64 hx
  have sa : (w.alloc (.cells (u8L xs).toArray 134)).heap.size = w.heap.size + 1 := by simp
  generalize w.alloc (.cells (u8L xs).toArray 134) = wa at ba ia sa ⊢
  have hz : ∀ X : World, (X.alloc (.cells (u32L (List.replicate 64 0)).toArray 135)).ownsRow w.heap.size 135 1 (.slice (some ⟨X.heap.size, 0, none⟩) 64 64) 64 (u32L (List.replicate 64 0)) ∨ X.heap.size < w.heap.size := by
    intro X
    by_cases h : w.heap.size ≤ X.heap.size
    · exact .inl ⟨rfl, .inr ⟨X.heap.size, 64, _, rfl, h, heap_alloc_new X _, Nat.le_refl _, by unfold maxLen; omega, rfl, rfl⟩⟩
    · exact .inr (by omega)
  have ez : (u32L (List.replicate 64 0)).toArray = #[.int .u32 0, .int .u32 0, .int .u32 0, .int .u32 0, .int .u32 0, .int .u32 0, .int .u32 0, .int .u32 0, .int .u32 0, .int .u32 0, .int .u32 0, .int .u32 0, .int .u32 0, .int .u32 0, .int .u32 0, .int .u32 0, .int .u32 0, .int .u32 0, .int .u32 0, .int .u32 0, .int .u32 0, .int .u32 0, .int .u32 0, .int .u32 0, .int .u32 0, .int .u32 0, .int .u32 0, .int .u32 0, .int .u32 0, .int .u32 0, .int .u32 0, .int .u32 0, .int .u32 0, .int .u32 0, .int .u32 0, .int .u32 0, .int .u32 0, .int .u32 0, .int .u32 0, .int .u32 0, .int .u32 0, .int .u32 0, .int .u32 0, .int .u32 0, .int .u32 0, .int .u32 0, .int .u32 0, .int .u32 0, .int .u32 0, .int .u32 0, .int .u32 0, .int .u32 0, .int .u32 0, .int .u32 0, .int .u32 0, .int .u32 0, .int .u32 0, .int .u32 0, .int .u32 0, .int .u32 0, .int .u32 0, .int .u32 0, .int .u32 0, .int .u32 0] := rfl
  rw [ez] at hz
  have h2 := (hz wa).resolve_right (by omega)
  have bb : Below wa.heap.size wa (wa.alloc (.cells #[.int .u32 0, .int .u32 0, .int .u32 0, .int .u32 0, .int .u32 0, .int .u32 0, .int .u32 0, .int .u32 0, .int .u32 0, .int .u32 0, .int .u32 0, .int .u32 0, .int .u32 0, .int .u32 0, .int .u32 0, .int .u32 0, .int .u32 0, .int .u32 0, .int .u32 0, .int .u32 0, .int .u32 0, .int .u32 0, .int .u32 0, .int .u32 0, .int .u32 0, .int .u32 0, .int .u32 0, .int .u32 0, .int .u32 0, .int .u32 0, .int .u32 0, .int .u32 0, .int .u32 0, .int .u32 0, .int .u32 0, .int .u32 0, .int .u32 0, .int .u32 0, .int .u32 0, .int .u32 0, .int .u32 0, .int .u32 0, .int .u32 0, .int .u32 0, .int .u32 0, .int .u32 0, .int .u32 0, .int .u32 0, .int .u32 0, .int .u32 0, .int .u32 0, .int .u32 0, .int .u32 0, .int .u32 0, .int .u32 0, .int .u32 0, .int .u32 0, .int .u32 0, .int .u32 0, .int .u32 0, .int .u32 0, .int .u32 0, .int .u32 0, .int .u32 0] 135)) := (Below.refl _ _).alloc (Nat.le_refl _) _
  have sb : (wa.alloc (.cells #[.int .u32 0, .int .u32 0, .int .u32 0, .int .u32 0, .int .u32 0, .int .u32 0, .int .u32 0, .int .u32 0, .int .u32 0, .int .u32 0, .int .u32 0, .int .u32 0, .int .u32 0, .int .u32 0, .int .u32 0, .int .u32 0, .int .u32 0, .int .u32 0, .int .u32 0, .int .u32 0, .int .u32 0, .int .u32 0, .int .u32 0, .int .u32 0, .int .u32 0, .int .u32 0, .int .u32 0, .int .u32 0, .int .u32 0, .int .u32 0, .int .u32 0, .int .u32 0, .int .u32 0, .int .u32 0, .int .u32 0, .int .u32 0, .int .u32 0, .int .u32 0, .int .u32 0, .int .u32 0, .int .u32 0, .int .u32 0, .int .u32 0, .int .u32 0, .int .u32 0, .int .u32 0, .int .u32 0, .int .u32 0, .int .u32 0, .int .u32 0, .int .u32 0, .int .u32 0, .int .u32 0, .int .u32 0, .int .u32 0, .int .u32 0, .int .u32 0, .int .u32 0, .int .u32 0, .int .u32 0, .int .u32 0, .int .u32 0, .int .u32 0, .int .u32 0] 135)).heap.size = w.heap.size + 1 + 1 := by simp [sa]
  rw [sa] at h2
  generalize wa.alloc (.cells #[.int .u32 0, .int .u32 0, .int .u32 0, .int .u32 0, .int .u32 0, .int .u32 0, .int .u32 0, .int .u32 0, .int .u32 0, .int .u32 0, .int .u32 0, .int .u32 0, .int .u32 0, .int .u32 0, .int .u32 0, .int .u32 0, .int .u32 0, .int .u32 0, .int .u32 0, .int .u32 0, .int .u32 0, .int .u32 0, .int .u32 0, .int .u32 0, .int .u32 0, .int .u32 0, .int .u32 0, .int .u32 0, .int .u32 0, .int .u32 0, .int .u32 0, .int .u32 0, .int .u32 0, .int .u32 0, .int .u32 0, .int .u32 0, .int .u32 0, .int .u32 0, .int .u32 0, .int .u32 0, .int .u32 0, .int .u32 0, .int .u32 0, .int .u32 0, .int .u32 0, .int .u32 0, .int .u32 0, .int .u32 0, .int .u32 0, .int .u32 0, .int .u32 0, .int .u32 0, .int .u32 0, .int .u32 0, .int .u32 0, .int .u32 0, .int .u32 0, .int .u32 0, .int .u32 0, .int .u32 0, .int .u32 0, .int .u32 0, .int .u32 0, .int .u32 0] 135) = wb at h2 bb sb ⊢
  have h3 := (hz wb).resolve_right (by omega)
  have bc : Below wb.heap.size wb (wb.alloc (.cells #[.int .u32 0, .int .u32 0, .int .u32 0, .int .u32 0, .int .u32 0, .int .u32 0, .int .u32 0, .int .u32 0, .int .u32 0, .int .u32 0, .int .u32 0, .int .u32 0, .int .u32 0, .int .u32 0, .int .u32 0, .int .u32 0, .int .u32 0, .int .u32 0, .int .u32 0, .int .u32 0, .int .u32 0, .int .u32 0, .int .u32 0, .int .u32 0, .int .u32 0, .int .u32 0, .int .u32 0, .int .u32 0, .int .u32 0, .int .u32 0, .int .u32 0, .int .u32 0, .int .u32 0, .int .u32 0, .int .u32 0, .int .u32 0, .int .u32 0, .int .u32 0, .int .u32 0, .int .u32 0, .int .u32 0, .int .u32 0, .int .u32 0, .int .u32 0, .int .u32 0, .int .u32 0, .int .u32 0, .int .u32 0, .int .u32 0, .int .u32 0, .int .u32 0, .int .u32 0, .int .u32 0, .int .u32 0, .int .u32 0, .int .u32 0, .int .u32 0, .int .u32 0, .int .u32 0, .int .u32 0, .int .u32 0, .int .u32 0, .int .u32 0, .int .u32 0] 135)) := (Below.refl _ _).alloc (Nat.le_refl _) _
  rw [sb] at h3
  generalize wb.alloc (.cells #[.int .u32 0, .int .u32 0, .int .u32 0, .int .u32 0, .int .u32 0, .int .u32 0, .int .u32 0, .int .u32 0, .int .u32 0, .int .u32 0, .int .u32 0, .int .u32 0, .int .u32 0, .int .u32 0, .int .u32 0, .int .u32 0, .int .u32 0, .int .u32 0, .int .u32 0, .int .u32 0, .int .u32 0, .int .u32 0, .int .u32 0, .int .u32 0, .int .u32 0, .int .u32 0, .int .u32 0, .int .u32 0, .int .u32 0, .int .u32 0, .int .u32 0, .int .u32 0, .int .u32 0, .int .u32 0, .int .u32 0, .int .u32 0, .int .u32 0, .int .u32 0, .int .u32 0, .int .u32 0, .int .u32 0, .int .u32 0, .int .u32 0, .int .u32 0, .int .u32 0, .int .u32 0, .int .u32 0, .int .u32 0, .int .u32 0, .int .u32 0, .int .u32 0, .int .u32 0, .int .u32 0, .int .u32 0, .int .u32 0, .int .u32 0, .int .u32 0, .int .u32 0, .int .u32 0, .int .u32 0, .int .u32 0, .int .u32 0, .int .u32 0, .int .u32 0] 135) = wc at h3 bc ⊢
  clear hz ez
  have ic := in_below (in_below ia bb) bc
  refine (C _ _ ic).mono ?_
  rintro e w1 ⟨p1, c1, rfl, r1, b1⟩
  have hB2 := owns_below (owns_below h2 bc) b1
  have hB3 := owns_below h3 b1
  have bel := below_on (below_on (below_on ba bb) bc) b1
  have hF := r1.1
  obtain ⟨g1, rfl⟩ := owns_at hF (by omega)
  have hg1 := (hF.lt g1 rfl).1
  have hsc := h3.lt (w.heap.size + 1 + 1) rfl
  clear C ia ic h2 h3 ba bb bc b1 r1 sa sb hx hb
  obtain ⟨B2, hB2e⟩ : ∃ B2, B2 = w.heap.size + 1 := ⟨_, rfl⟩
  rw [← hB2e] at hB2 hB3 hsc ⊢
  obtain ⟨B3, hB3e⟩ : ∃ B3, B3 = B2 + 1 := ⟨_, rfl⟩
  rw [← hB3e] at hB3 hsc ⊢
  have hB31 : B3 < w1.heap.size := (hB3.lt B3 rfl).2
  have hne1 : g1 ≠ B3 := by omega
  have hne2 : B2 ≠ B3 := by omega
  have hne3 : w.heap.size ≤ B3 := by omega
  have hne4 : w.heap.size ≤ B2 := by omega
  clear hB2e hB3e hg1 hsc
  go_wp2_with (fail)
  go_loopw [8] (fun i wr => ∃ t : Nat, t ≤ 64 ∧ i = .int .i64 t ∧ wr.ownsRow w.heap.size 135 1 (.slice (some ⟨B3, 0, none⟩) 64 64) 64 (u32L (takenN W t)) ∧ w1.grownBy wr (some B3))
    (fun i _ => 64 - (intOf i).toNat)
  case atStart => exact ⟨0, by omega, rfl, hB3, World.grownBy.refl _ _⟩
  case round =>
    clear hB3
    obtain ⟨t, ht, rfl, hB3, hgr⟩ := hrel
    by_cases hlt : t < 64
    · have hfr := hB3.frozenAt t
      have hfl := takenN_length hWl t ht
      have hold : wr.cell? ⟨B3, t, none⟩ = some (.int .u32 (((takenN W t).getD t 0 : Nat) : Int)) := by rw [hB3.cellAt t (by omega), u32L_getElem? _ _ (by omega)]
      generalize (takenN W t).getD t 0 = old at hold
      by_cases h16 : t < 16
      · have hk := hF.kept hgr (.inr (by simp [Value.ownBlock]; exact fun h => hne1 h))
        have d : wr.cell? ⟨g1, t, none⟩ = some (.int .i64 ((ws.getD t 0 : Nat) : Int)) := by
          rw [hk.cellAt t (by omega), ← natsL_getD, List.getElem?_map, List.getD_eq_getElem?_getD, List.getElem?_eq_getElem (by rw [natsL_length]; omega)]
          rfl
        have la := getD_lt hwt (by decide) t
        have st := hB3.stored t (.int .u32 ((ws.getD t 0 : Nat) : Int))
        rw [takenN_set hWl t hlt _ (HF.out t h16).symm] at st
        generalize ws.getD t 0 = a at d la st
        have ma : (a : Int) % 4294967296 = (a : Int) := by omega
        have wa : IntKind.u32.wrap (a : Int) = (a : Int) := by rw [IntKind.wrap_u32]; exact ma
        have hgr' := grown_trans hgr st.2
        have st' := st.1
        clear st hB3 hk hgr
        go_wp2
        go_roundw
        case rel => exact ⟨t + 1, by omega, by go_num, st', hgr'⟩
        case measure => simp [intOf]; omega
      · have cell : ∀ j, j < t → wr.cell? ⟨B3, j, none⟩ = some (.int .u32 ((W.getD j 0 : Nat) : Int)) := by
          intro j hj
          rw [hB3.cellAt j (by omega), u32L_getElem? _ _ (by omega), takenN_getD hWl t j ht hj]
        obtain ⟨j2, hj2⟩ : ∃ j2, t = j2 + 2 := ⟨t - 2, by omega⟩
        obtain ⟨j7, hj7⟩ : ∃ j7, t = j7 + 7 := ⟨t - 7, by omega⟩
        obtain ⟨j15, hj15⟩ : ∃ j15, t = j15 + 15 := ⟨t - 15, by omega⟩
        obtain ⟨j16, hj16⟩ : ∃ j16, t = j16 + 16 := ⟨t - 16, by omega⟩
        have l2 : j2 < 64 := by omega
        have l7 : j7 < 64 := by omega
        have l15 : j15 < 64 := by omega
        have l16 : j16 < 64 := by omega
        have d2 := cell j2 (by omega)
        have d7 := cell j7 (by omega)
        have d15 := cell j15 (by omega)
        have d16 := cell j16 (by omega)
        have m2 := getD_lt hWt (by decide) j2
        have m7 := getD_lt hWt (by decide) j7
        have m15 := getD_lt hWt (by decide) j15
        have m16 := getD_lt hWt (by decide) j16
        have HU : Hid (W.getD t 0 = (smallN (W.getD j2 0) 17 19 10 + W.getD j7 0 + smallN (W.getD j15 0) 7 18 3 + W.getD j16 0) % 4294967296) := by
          rw [Hid, HX.out t (by omega) hlt]
          unfold nextN
          rw [show t - 2 = j2 by omega, show t - 7 = j7 by omega, show t - 15 = j15 by omega, show t - 16 = j16 by omega]
        clear cell
        generalize W.getD j2 0 = a2 at d2 m2 HU
        generalize W.getD j7 0 = a7 at d7 m7 HU
        generalize W.getD j15 0 = a15 at d15 m15 HU
        generalize W.getD j16 0 = a16 at d16 m16 HU
        have C1 := fun w => smallMix1_same a2 w m2
        have C0 := fun w => smallMix0_same a15 w m15
        have n1 := smallN_lt (a := 17) (b := 19) (c := 10) m2 (by decide) (by decide)
        have n0 := smallN_lt (a := 7) (b := 18) (c := 3) m15 (by decide) (by decide)
        generalize smallN a2 17 19 10 = r1 at C1 n1 HU
        generalize smallN a15 7 18 3 = r0 at C0 n0 HU
        obtain ⟨x1, hx1⟩ : ∃ x1 : Nat, x1 = (r1 + a7) % 4294967296 := ⟨_, rfl⟩
        have mx1 : ((r1 : Int) + (a7 : Int)) % 4294967296 = (x1 : Int) := by omega
        have wx1 : IntKind.u32.wrap ((r1 : Int) + (a7 : Int)) = (x1 : Int) := by rw [IntKind.wrap_u32]; exact mx1
        obtain ⟨x2, hx2⟩ : ∃ x2 : Nat, x2 = (x1 + r0) % 4294967296 := ⟨_, rfl⟩
        have mx2 : ((x1 : Int) + (r0 : Int)) % 4294967296 = (x2 : Int) := by omega
        have wx2 : IntKind.u32.wrap ((x1 : Int) + (r0 : Int)) = (x2 : Int) := by rw [IntKind.wrap_u32]; exact mx2
        obtain ⟨u, hu⟩ : ∃ u : Nat, u = (x2 + a16) % 4294967296 := ⟨_, rfl⟩
        have mu : ((x2 : Int) + (a16 : Int)) % 4294967296 = (u : Int) := by omega
        have wu : IntKind.u32.wrap ((x2 : Int) + (a16 : Int)) = (u : Int) := by rw [IntKind.wrap_u32]; exact mu
        have hUu : u = W.getD t 0 := by rw [HU.out]; omega
        have st := hB3.stored t (.int .u32 (u : Int))
        rw [takenN_set hWl t hlt u hUu] at st
        have hgr' := grown_trans hgr st.2
        have st' := st.1
        have v2 : IntKind.i64.wrap ((t : Int) - 2) = (j2 : Int) := by rw [IntKind.wrap_i64]; omega
        have v7 : IntKind.i64.wrap ((t : Int) - 7) = (j7 : Int) := by rw [IntKind.wrap_i64]; omega
        have v15 : IntKind.i64.wrap ((t : Int) - 15) = (j15 : Int) := by rw [IntKind.wrap_i64]; omega
        have v16 : IntKind.i64.wrap ((t : Int) - 16) = (j16 : Int) := by rw [IntKind.wrap_i64]; omega
        have k2 : (⟨B3, t, none⟩ : Addr) ≠ ⟨B3, j2, none⟩ := by intro h; injection h with _ h; omega
        have k7 : (⟨B3, t, none⟩ : Addr) ≠ ⟨B3, j7, none⟩ := by intro h; injection h with _ h; omega
        have k15 : (⟨B3, t, none⟩ : Addr) ≠ ⟨B3, j15, none⟩ := by intro h; injection h with _ h; omega
        have k16 : (⟨B3, t, none⟩ : Addr) ≠ ⟨B3, j16, none⟩ := by intro h; injection h with _ h; omega
        have HD : ∀ X : World, X.drew.cell? = X.cell? := fun X => by funext p; simp
        have HS1 : wr.cell? ⟨B3, j2, none⟩ = some (.int .u32 (a2 : Int)) ∧ wr.cell? ⟨B3, j7, none⟩ = some (.int .u32 (a7 : Int)) ∧ wr.cell? ⟨B3, j15, none⟩ = some (.int .u32 (a15 : Int)) ∧ wr.cell? ⟨B3, j16, none⟩ = some (.int .u32 (a16 : Int)) := ⟨d2, d7, d15, d16⟩
        have HSd : wr.drew.cell? ⟨B3, j2, none⟩ = some (.int .u32 (a2 : Int)) ∧ wr.drew.cell? ⟨B3, j7, none⟩ = some (.int .u32 (a7 : Int)) ∧ wr.drew.cell? ⟨B3, j15, none⟩ = some (.int .u32 (a15 : Int)) ∧ wr.drew.cell? ⟨B3, j16, none⟩ = some (.int .u32 (a16 : Int)) := by rw [HD]; exact HS1
        have HS2 : (wr.setCell ⟨B3, t, none⟩ (.int .u32 (u : Int))).cell? ⟨B3, j2, none⟩ = some (.int .u32 (a2 : Int)) ∧ (wr.setCell ⟨B3, t, none⟩ (.int .u32 (u : Int))).cell? ⟨B3, j7, none⟩ = some (.int .u32 (a7 : Int)) ∧ (wr.setCell ⟨B3, t, none⟩ (.int .u32 (u : Int))).cell? ⟨B3, j15, none⟩ = some (.int .u32 (a15 : Int)) ∧ (wr.setCell ⟨B3, t, none⟩ (.int .u32 (u : Int))).cell? ⟨B3, j16, none⟩ = some (.int .u32 (a16 : Int)) := ⟨(World.cell?_setCell_other _ _ _ _ k2).trans d2, (World.cell?_setCell_other _ _ _ _ k7).trans d7, (World.cell?_setCell_other _ _ _ _ k15).trans d15, (World.cell?_setCell_other _ _ _ _ k16).trans d16⟩
        have HSa : (wr.setCell ⟨B3, t, none⟩ (.int .u32 (u : Int))).drew.cell? ⟨B3, j2, none⟩ = some (.int .u32 (a2 : Int)) ∧ (wr.setCell ⟨B3, t, none⟩ (.int .u32 (u : Int))).drew.cell? ⟨B3, j7, none⟩ = some (.int .u32 (a7 : Int)) ∧ (wr.setCell ⟨B3, t, none⟩ (.int .u32 (u : Int))).drew.cell? ⟨B3, j15, none⟩ = some (.int .u32 (a15 : Int)) ∧ (wr.setCell ⟨B3, t, none⟩ (.int .u32 (u : Int))).drew.cell? ⟨B3, j16, none⟩ = some (.int .u32 (a16 : Int)) := by rw [HD]; exact HS2
        have HSb : (wr.drew.setCell ⟨B3, t, none⟩ (.int .u32 (u : Int))).cell? ⟨B3, j2, none⟩ = some (.int .u32 (a2 : Int)) ∧ (wr.drew.setCell ⟨B3, t, none⟩ (.int .u32 (u : Int))).cell? ⟨B3, j7, none⟩ = some (.int .u32 (a7 : Int)) ∧ (wr.drew.setCell ⟨B3, t, none⟩ (.int .u32 (u : Int))).cell? ⟨B3, j15, none⟩ = some (.int .u32 (a15 : Int)) ∧ (wr.drew.setCell ⟨B3, t, none⟩ (.int .u32 (u : Int))).cell? ⟨B3, j16, none⟩ = some (.int .u32 (a16 : Int)) := ⟨(World.cell?_setCell_other _ _ _ _ k2).trans HSd.1, (World.cell?_setCell_other _ _ _ _ k7).trans HSd.2.1, (World.cell?_setCell_other _ _ _ _ k15).trans HSd.2.2.1, (World.cell?_setCell_other _ _ _ _ k16).trans HSd.2.2.2⟩
        replace HSd : Hid (wr.drew.cell? ⟨B3, j2, none⟩ = some (.int .u32 (a2 : Int)) ∧ wr.drew.cell? ⟨B3, j7, none⟩ = some (.int .u32 (a7 : Int)) ∧ wr.drew.cell? ⟨B3, j15, none⟩ = some (.int .u32 (a15 : Int)) ∧ wr.drew.cell? ⟨B3, j16, none⟩ = some (.int .u32 (a16 : Int))) := HSd
        replace HSa : Hid ((wr.setCell ⟨B3, t, none⟩ (.int .u32 (u : Int))).drew.cell? ⟨B3, j2, none⟩ = some (.int .u32 (a2 : Int)) ∧ (wr.setCell ⟨B3, t, none⟩ (.int .u32 (u : Int))).drew.cell? ⟨B3, j7, none⟩ = some (.int .u32 (a7 : Int)) ∧ (wr.setCell ⟨B3, t, none⟩ (.int .u32 (u : Int))).drew.cell? ⟨B3, j15, none⟩ = some (.int .u32 (a15 : Int)) ∧ (wr.setCell ⟨B3, t, none⟩ (.int .u32 (u : Int))).drew.cell? ⟨B3, j16, none⟩ = some (.int .u32 (a16 : Int))) := HSa
        replace HSb : Hid ((wr.drew.setCell ⟨B3, t, none⟩ (.int .u32 (u : Int))).cell? ⟨B3, j2, none⟩ = some (.int .u32 (a2 : Int)) ∧ (wr.drew.setCell ⟨B3, t, none⟩ (.int .u32 (u : Int))).cell? ⟨B3, j7, none⟩ = some (.int .u32 (a7 : Int)) ∧ (wr.drew.setCell ⟨B3, t, none⟩ (.int .u32 (u : Int))).cell? ⟨B3, j15, none⟩ = some (.int .u32 (a15 : Int)) ∧ (wr.drew.setCell ⟨B3, t, none⟩ (.int .u32 (u : Int))).cell? ⟨B3, j16, none⟩ = some (.int .u32 (a16 : Int))) := HSb
        clear HD HS1 HS2
        clear hj2 hj7 hj15 hj16 HU hUu hx1 hx2 hu st k2 k7 k15 k16 hgr hB3
        have hc16 : ¬ (t : Int) < 16 := by omega
        have i2 : (j2 : Int) < 64 := by omega
        have p2 : (0 : Int) ≤ (j2 : Int) := by omega
        have i7 : (j7 : Int) < 64 := by omega
        have p7 : (0 : Int) ≤ (j7 : Int) := by omega
        have i15 : (j15 : Int) < 64 := by omega
        have p15 : (0 : Int) ≤ (j15 : Int) := by omega
        have i16 : (j16 : Int) < 64 := by omega
        have p16 : (0 : Int) ≤ (j16 : Int) := by omega
        go_wp2_with (fail)
        go_region_held3 (fun w' => w'.cell? ⟨B3, j2, none⟩ = some (.int .u32 (a2 : Int)) ∧ w'.cell? ⟨B3, j7, none⟩ = some (.int .u32 (a7 : Int)) ∧ w'.cell? ⟨B3, j15, none⟩ = some (.int .u32 (a15 : Int)) ∧ w'.cell? ⟨B3, j16, none⟩ = some (.int .u32 (a16 : Int))) (first | with_reducible exact HSd.out | with_reducible exact HSa.out | with_reducible exact HSb.out) (first | (go_at_call 199; refine (C1 _).mono ?_; rintro e w9 ⟨rfl, rfl⟩) | (go_at_call 200; refine (C0 _).mono ?_; rintro e w9 ⟨rfl, rfl⟩))
        all_goals
          go_wp2
          go_roundw
          case rel => exact ⟨t + 1, by omega, by go_num, st', ⟨hgr'.os, hgr'.tape, hgr'.output, hgr'.size, hgr'.block⟩⟩
          case measure => simp [intOf]; omega
    · have hfin : takenN W t = W := by simp [takenN, show t = 64 by omega, List.take_of_length_le (show W.length ≤ 64 by omega)]
      rw [hfin] at hB3
      clear hfin
      have hk2 := hB2.kept hgr (.inr (by simp [Value.ownBlock]; exact fun h => hne2 h))
      have hra := owns_range hB3
      have hth := owns_there hk2
      have hsz : (Tryz.prog.info? 135).map (·.size) = some (u32L W).length := by rw [infoW64]; simp [u32L, hWl]
      have hsz2 : (Tryz.prog.info? 135).map (·.size) = some (u32L W).toArray.size := by rw [infoW64]; simp [u32L, hWl]
      have hth2 : wr.there B2 0 (u32L W).toArray.size := by rw [show (u32L W).toArray.size = 64 by simp [u32L, hWl]]; exact hth
      have hth3 : wr.there B2 0 (u32L W).length := by rw [show (u32L W).length = 64 by simp [u32L, hWl]]; exact hth
      have hrl := World.rangeAt_setCells_same wr B2 0 (u32L W) hth3
      have hput := (owns_put (u32L W) 0 wr _ hk2).2
      have hbel : Below w.heap.size w (wr.setCells B2 0 (u32L W)) := (bel.grown hgr bel.size (fun k hk => by cases hk; exact hne3)).grown hput (Nat.le_trans bel.size hgr.size) (fun k hk => by cases hk; exact hne4)
      have hld := run_loadVar_mid (P := Tryz.prog) (wr.setCells B2 0 (u32L W)) B2 0 135 (u32L W) _ hrl Tryz.underlying135 rfl hsz
      clear hk2 hth hth3 hrl hput hgr hB2 hB3
      go_wp2_with (first | (refine wpList_load_mid rfl 135 _ rfl B3 0 rfl (u32L W) _ hra Tryz.underlying135 rfl hsz ?_) | (refine wpList_store_mid rfl 135 _ _ rfl B2 0 (u32L W).toArray rfl rfl hth2 hsz2 (all_oneCell_toArray (u32L_one W)) ?_))
      (try simp only [Exit.inBlock, Exit.then])
      refine bodyPost_ret (v := .agg (u32L W).toArray) ?_ rfl ⟨rfl, hbel⟩
      simp [results, asAddr, Act.put, hld]

end Go.Proofs.YthfnechcddmjkaaGreatDoor
