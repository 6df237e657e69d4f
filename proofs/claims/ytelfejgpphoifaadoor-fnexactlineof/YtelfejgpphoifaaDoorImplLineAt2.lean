/-
  What the program reads of a book at a place where there are bytes enough. Conditions: bytes that lie there, as many as a law hands over.
-/
import Derived.Test.YtelfejgpphoifaaDoorImplLineAt
namespace Go.Proofs.YtelfejgpphoifaaDoor
open Go.RowKit
set_option maxRecDepth 100000

theorem own_wide {e : Nat} {w : World} {lo hi lo' hi' : Nat} {v : Value} {n : Nat} {xs : List Int} (h : Own e w lo hi v n xs) (h1 : lo' ≤ lo) (h2 : hi ≤ hi') : Own e w lo' hi' v n xs := ⟨owns_mono h.1 h1, fun k hk => Nat.lt_of_lt_of_le (h.2 k hk) h2⟩
theorem own_set {e : Nat} {w : World} {lo hi B i : Nat} {v : Value} {n : Nat} {xs : List Int} (h : Own e w lo hi v n xs) (u : Value) (ha : B < lo ∨ hi ≤ B) : Own e (w.setCell ⟨B, i, none⟩ u) lo hi v n xs := by
  rcases ha with ha | ha
  · exact h.set_below (a := ⟨B, i, none⟩) ha u
  · refine ⟨h.1.kept (set_grown w B i u) (.inr fun e => ?_), h.2⟩
    have := h.2 B e
    omega
theorem below_setA {a w : World} {p : Addr} (h : Below a.heap.size a w) (hp : a.heap.size ≤ p.block) (v : Value) : Below a.heap.size a (w.setCell p v) := h.setCell hp v
theorem hexL_two (xs : List Int) : (hexL xs).length = 2 * xs.length := by
  induction xs with
  | nil => rfl
  | cons x xs ih => simp [hexL] at ih ⊢; omega
noncomputable def atV (b : Bool) (bs : List Int) (a : Nat) (p : Option Addr) (c : Nat) : Value :=
  if b = true then .tuple #[kindV (laK bs a) (laS bs a) (laT bs a) (laD bs a) p (laN bs a) c, .int .i64 ((a + 18 + laN bs a : Nat) : Int), .nilIface] else .tuple #[.nilIface, .int .i64 0, .iface 44 (.agg #[.int .i64 (a : Int)])]

set_option maxHeartbeats 16000000 in
theorem lineAt_at (g o n c : Nat) (bs : List Int) (a : Nat) (w : World) (hn : n ≤ 1048576) (hx : bs.length = n) (h : BytesIn w (some ⟨g, o, none⟩) n bs) (hb : ∀ x ∈ bs, 0 ≤ x ∧ x < 256) (hc : n ≤ c) (hok : a + 18 + laN bs a ≤ n) :
    Calls Tryd.prog 16 #[.slice (some ⟨g, o, none⟩) n c, .int .i64 (a : Int)] w fun e w' => ∃ p' c', e = .returned (atV (laB bs a) bs a p' c') ∧ Own 5 w' w.heap.size w'.heap.size (.slice p' (laN bs a) c') (laN bs a) (laX bs a) ∧ Below w.heap.size w w' := by
  have hw : IntKind.i64.wrap ((n : Int) - (a : Int)) = (n : Int) - (a : Int) := by rw [IntKind.wrap_i64]; omega
  have h1 : ¬ (a : Int) < 0 := by omega
  have h2 : ¬ (n : Int) - (a : Int) < 16 := by omega
  have sub : ∀ l k, ∀ x ∈ (bs.drop l).take k, 0 ≤ x ∧ x < 256 := fun l k x hx => hb x (List.mem_of_mem_drop (List.mem_of_mem_take hx))
  have len : ∀ l k, l + k ≤ n → ((bs.drop l).take k).length = k := fun l k hk => by rw [List.length_take, List.length_drop]; omega
  have cut : ∀ X, Below w.heap.size w X → ∀ l k, a + l + k ≤ n → BytesIn X (some ⟨g, o + a + l, none⟩) k ((bs.drop (a + l)).take k) := fun X hX l k hk => by
    have := in_cut (in_below h hX) (a + l) k (by omega)
    rw [← Nat.add_assoc] at this
    exact this
  have hN := laN_lt hb a
  have hD := laD_lt hb a
  have hK : 0 ≤ laK bs a ∧ laK bs a < 256 := byteL hb a
  have hT : 0 ≤ laT bs a ∧ laT bs a < 256 := byteL hb (a + 9)
  have hXl := laX_len (bs := bs) (a := a) (by omega)
  have s1 := cut_from g o n c a (by omega) (by omega)
  have s2 := cut_mid g (o + a) (n - a) (c - a) 14 16 (by omega) (by omega) (by omega)
  have s3 := cut_mid g (o + a) (n - a) (c - a) 10 14 (by omega) (by omega) (by omega)
  have s4 := cut_mid g (o + a) (n - a) (c - a) 16 (16 + laN bs a) (by omega) (by omega) (by omega)
  have s5 := cut_mid g (o + a) (n - a) (c - a) 1 9 (by omega) (by omega) (by omega)
  have s6 := cut_to g (o + a) (n - a) (c - a) (18 + laN bs a) (by omega)
  have G2 : Calls Tryd.prog 23 #[.slice (some ⟨g, o + a + 14, none⟩) 2 (c - a - 14)] w fun e w' => e = .returned (.int .i64 (laN bs a : Nat)) ∧ w' = w := greatNumber_any _ 2 _ _ w (by omega) (len _ _ (by omega)) (cut w (Below.refl _ _) 14 2 (by omega)) (sub _ _)
  have G4 : ∀ X, Below w.heap.size w X → Calls Tryd.prog 23 #[.slice (some ⟨g, o + a + 10, none⟩) 4 (c - a - 10)] X fun e w' => e = .returned (.int .i64 (laD bs a)) ∧ w' = X := fun X hX => greatNumber_any _ 4 _ _ X (by omega) (len _ _ (by omega)) (cut X hX 10 4 (by omega)) (sub _ _)
  have CP : ∀ X, Below w.heap.size w X → Calls Tryd.prog 24 #[.slice (some ⟨g, o + a + 16, none⟩) (laN bs a) (c - a - 16)] X fun e w' => ∃ p' c', e = .returned (.slice p' (laN bs a) c') ∧ Own 5 w' X.heap.size w'.heap.size (.slice p' (laN bs a) c') (laN bs a) (laX bs a) ∧ Below X.heap.size X w' := fun X hX => copied_any _ _ _ _ X (by omega) hXl (cut X hX 16 _ (by omega))
  have CH : ∀ X, Below w.heap.size w X → Calls Tryd.prog 25 #[.slice (some ⟨g, o + a + 1, none⟩) 8 (c - a - 1)] X fun e w' => e = .returned (.string (strOfNums (hexL ((bs.drop (a + 1)).take 8)))) ∧ Below X.heap.size X w' := fun X hX => implHex_any _ 8 _ _ X (by omega) (len _ _ (by omega)) (cut X hX 1 8 (by omega)) (sub _ _)
  have cutS : ∀ X, Below w.heap.size w X → BytesIn X (some ⟨g, o + a, none⟩) (18 + laN bs a) ((bs.drop a).take (18 + laN bs a)) := fun X hX => cut X hX 0 (18 + laN bs a) (by omega)
  have lenS := len a (18 + laN bs a) (by omega)
  obtain ⟨b', o', e, hcell⟩ := id h (by omega)
  cases e
  have cK : ∀ X, Below w.heap.size w X → X.cell? ⟨g, o + a, none⟩ = some (.int .u8 (laK bs a)) := fun X hX => (hX.cell (p := ⟨g, o + a, none⟩) (World.block_lt_of_cell? w ⟨g, o + a, none⟩ (hcell a (by omega)))).trans (hcell a (by omega))
  have cT : ∀ X, Below w.heap.size w X → X.cell? ⟨g, o + a + 9, none⟩ = some (.int .u8 (laT bs a)) := fun X hX => by
    have hq := hcell (a + 9) (by omega)
    rw [← Nat.add_assoc] at hq
    exact (hX.cell (p := ⟨g, o + a + 9, none⟩) (World.block_lt_of_cell? w ⟨g, o + a + 9, none⟩ hq)).trans hq
  have hSz : (laS bs a).size ≤ 1048576 := by
    unfold laS
    split
    · exact Nat.zero_le _
    · rw [strOfNums_size, hexL_two, len (a + 1) 8 (by omega)]
      omega
  have LB : ∀ (X : World) (p' : Option Addr) (c' : Nat), BytesIn X p' (laN bs a) (laX bs a) → Calls Tryd.prog 27 #[.agg #[.int .i64 (laK bs a), .string (laS bs a), .int .i64 (laT bs a), .int .i64 (laD bs a), .slice p' (laN bs a) c']] X fun z w' => ∃ q cq, z = .returned (.slice q (lineN (laK bs a) (laS bs a) (laT bs a) (laD bs a) (laN bs a)) cq) ∧ Own 5 w' X.heap.size w'.heap.size (.slice q (lineN (laK bs a) (laS bs a) (laT bs a) (laD bs a) (laN bs a)) cq) (lineN (laK bs a) (laS bs a) (laT bs a) (laD bs a) (laN bs a)) (lineL (laK bs a) (laS bs a) (laT bs a) (laD bs a) (laN bs a) (laX bs a)) ∧ Below X.heap.size X w' := fun X p' c' hX => implLineBytes_any _ _ _ _ _ _ _ _ X hSz hXl hX
  have SM : ∀ (X : World) (q : Option Addr) (cq : Nat), (lineL (laK bs a) (laS bs a) (laT bs a) (laD bs a) (laN bs a) (laX bs a)).length = lineN (laK bs a) (laS bs a) (laT bs a) (laD bs a) (laN bs a) → BytesIn X q (lineN (laK bs a) (laS bs a) (laT bs a) (laD bs a) (laN bs a)) (lineL (laK bs a) (laS bs a) (laT bs a) (laD bs a) (laN bs a) (laX bs a)) → Below w.heap.size w X → Calls Tryd.prog 26 #[.slice q (lineN (laK bs a) (laS bs a) (laT bs a) (laD bs a) (laN bs a)) cq, .slice (some ⟨g, o + a, none⟩) (18 + laN bs a) (c - a)] X fun e w' => e = .returned (.bool (laB bs a)) ∧ Below X.heap.size X w' := fun X q cq hl hX hw => implSame_any _ _ _ _ _ _ _ _ X hl lenS hX (cutS X hw)
  have OK : laB bs a = true → ∀ (X : World) (p' : Option Addr) (c' : Nat), Calls Tryd.prog 28 #[.agg #[.int .i64 (laK bs a), .string (laS bs a), .int .i64 (laT bs a), .int .i64 (laD bs a), .slice p' (laN bs a) c']] X fun e w' => e = .returned (kindV (laK bs a) (laS bs a) (laT bs a) (laD bs a) p' (laN bs a) c') ∧ Below X.heap.size X w' := fun hB X p' c' => ofKind_any _ _ _ _ _ _ _ X (lnB_facts (laB_ln (by omega) hB)).1
  have hS : laS bs a = if laK bs a = 3 then ByteArray.empty else strOfNums (hexL ((bs.drop (a + 1)).take 8)) := rfl
  obtain ⟨POST, hPOST⟩ : ∃ POST : Option Addr → Nat → Value, ∀ p' c', POST p' c' = atV (laB bs a) bs a p' c' := ⟨fun p' c' => atV (laB bs a) bs a p' c', fun _ _ => rfl⟩
  have hP1 : laB bs a = true → ∀ p' c', POST p' c' = .tuple #[kindV (laK bs a) (laS bs a) (laT bs a) (laD bs a) p' (laN bs a) c', .int .i64 ((a + 18 + laN bs a : Nat) : Int), .nilIface] := fun hB p' c' => by rw [hPOST, atV, if_pos hB]
  have hP0 : laB bs a = false → ∀ p' c', POST p' c' = .tuple #[.nilIface, .int .i64 0, .iface 44 (.agg #[.int .i64 (a : Int)])] := fun hB p' c' => by rw [hPOST, atV, if_neg (by rw [hB]; decide)]
  simp only [← hPOST]
  clear hPOST
  generalize lineL (laK bs a) (laS bs a) (laT bs a) (laD bs a) (laN bs a) (laX bs a) = LL at LB SM
  generalize lineN (laK bs a) (laS bs a) (laT bs a) (laD bs a) (laN bs a) = LN at LB SM
  generalize laB bs a = Q at SM OK hP1 hP0
  generalize laX bs a = XS at CP LB hXl ⊢
  generalize strOfNums (hexL ((bs.drop (a + 1)).take 8)) = HS at CH hS
  generalize laS bs a = S at LB OK hP1 hS hSz
  generalize laT bs a = T at cT LB OK hP1 hT
  generalize laD bs a = DD at G4 LB OK hP1 hD
  generalize laK bs a = K at cK LB OK hP1 hK hS
  generalize laN bs a = M at *
  replace hS : Hid _ := hS
  replace OK : Hid _ := OK
  replace hP1 : Hid _ := hP1
  replace hP0 : Hid _ := hP0
  obtain ⟨R, hR⟩ : ∃ R, R = n - a := ⟨_, rfl⟩
  obtain ⟨CA, hCA⟩ : ∃ CA, CA = c - a := ⟨_, rfl⟩
  rw [← hR] at s1 s2 s3 s4 s5 s6
  rw [← hCA] at s1 s2 s3 s4 s5 s6 G2 G4 CP CH SM
  replace s2 : ∀ V, (Instr.slice 22 (.slice (some ⟨g, o + a, none⟩) R CA) (some (.int .i64 14)) (some (.int .i64 16)) none).run Tryd.prog V = .ok (.slice (some ⟨g, o + a + 14, none⟩) 2 (CA - 14)) V := s2
  replace s3 : ∀ V, (Instr.slice 22 (.slice (some ⟨g, o + a, none⟩) R CA) (some (.int .i64 10)) (some (.int .i64 14)) none).run Tryd.prog V = .ok (.slice (some ⟨g, o + a + 10, none⟩) 4 (CA - 10)) V := s3
  replace s4 : ∀ V, (Instr.slice 22 (.slice (some ⟨g, o + a, none⟩) R CA) (some (.int .i64 16)) (some (.int .i64 (16 + (M : Int)))) none).run Tryd.prog V = .ok (.slice (some ⟨g, o + a + 16, none⟩) M (CA - 16)) V := fun V => by
    have := s4 V
    rw [show (16 + M - 16) = M by omega, show ((16 + M : Nat) : Int) = 16 + (M : Int) by omega] at this
    exact this
  replace s5 : ∀ V, (Instr.slice 22 (.slice (some ⟨g, o + a, none⟩) R CA) (some (.int .i64 1)) (some (.int .i64 9)) none).run Tryd.prog V = .ok (.slice (some ⟨g, o + a + 1, none⟩) 8 (CA - 1)) V := s5
  obtain ⟨SZ, hSZ⟩ : ∃ SZ, SZ = 18 + M := ⟨_, rfl⟩
  have hSZi : 16 + (M : Int) + 2 = (SZ : Int) := by omega
  rw [← hSZ] at s6 SM
  have w1 : IntKind.i64.wrap (16 + (M : Int)) = 16 + (M : Int) := by rw [IntKind.wrap_i64]; omega
  have w2 : IntKind.i64.wrap (16 + (M : Int) + 2) = (SZ : Int) := by rw [IntKind.wrap_i64]; omega
  have w3 : IntKind.i64.wrap ((a : Int) + (SZ : Int)) = ((a + 18 + M : Nat) : Int) := by rw [IntKind.wrap_i64]; omega
  have wK : IntKind.i64.wrap K = K := by rw [IntKind.wrap_i64]; omega
  have wT : IntKind.i64.wrap T = T := by rw [IntKind.wrap_i64]; omega
  have h3 : ¬ (R : Int) < (SZ : Int) := by omega
  have r0 : (0 : Int) < (R : Int) := by omega
  have r9 : (9 : Int) < (R : Int) := by omega
  have r0n : 0 < R := by omega
  have r0m : R ≠ 0 := by omega
  clear sub len cut hR hCA h hb hx hcell hSZi hSZ cutS lenS hok hN hc hSz
  go_enter Tryd.func16, Tryd.ntmps16
  go_wp2_with (fail)
  refine G2.mono ?_
  rintro e w' ⟨rfl, rfl⟩
  go_wp2_with (fail)
  go_region_held3 (fun w1 => w1.cell? ⟨g, o + a, none⟩ = some (.int .u8 K) ∧ w1.cell? ⟨g, o + a + 9, none⟩ = some (.int .u8 T)) (exact ⟨cK _ (by repeat (with_reducible (first | exact Below.refl _ _ | refine below_drewL ?_ | refine below_allocL ?_ _ | refine below_setA ?_ (Nat.le_refl _) _ | refine below_on ?_ bk))), cT _ (by repeat (with_reducible (first | exact Below.refl _ _ | refine below_drewL ?_ | refine below_allocL ?_ _ | refine below_setA ?_ (Nat.le_refl _) _ | refine below_on ?_ bk)))⟩) (first | (go_at_call 23; refine (G4 _ (by repeat (with_reducible (first | exact Below.refl _ _ | refine below_drewL ?_ | refine below_allocL ?_ _ | refine below_setA ?_ (Nat.le_refl _) _ | refine below_on ?_ bk)))).mono ?_; rintro z wg ⟨rfl, rfl⟩) | (go_at_call 24; refine (CP _ (by repeat (with_reducible (first | exact Below.refl _ _ | refine below_drewL ?_ | refine below_allocL ?_ _ | refine below_setA ?_ (Nat.le_refl _) _ | refine below_on ?_ bk)))).mono ?_; rintro z wk ⟨pk, ck, rfl, rk, bk⟩; try (have D0 : Cells wk w'.heap.size #[.int .i64 0, .string { data := #[] }, .int .i64 0, .int .i64 0, .slice none 0 0] := (Cells.made w'.drew _ _).on bk; have q0 : (wk).cell? ⟨w'.heap.size, 0, none⟩ = some (.int .i64 0) := (D0.2 0).1; have u0 := (D0.2 0).2; have D1 := D0.set 0 (by simp) (.int .i64 K); have q1 : (wk.setCell ⟨w'.heap.size, 0, none⟩ (.int .i64 K)).cell? ⟨w'.heap.size, 1, none⟩ = some (.string { data := #[] }) := (D1.2 1).1; have u1 := (D1.2 1).2; have D2 := D1.set 1 (by simp) (.string { data := #[] }); have q2 : ((wk.setCell ⟨w'.heap.size, 0, none⟩ (.int .i64 K)).setCell ⟨w'.heap.size, 1, none⟩ (.string { data := #[] })).cell? ⟨w'.heap.size, 2, none⟩ = some (.int .i64 0) := (D2.2 2).1; have u2 := (D2.2 2).2; have D3 := D2.set 2 (by simp) (.int .i64 T); have q3 : (((wk.setCell ⟨w'.heap.size, 0, none⟩ (.int .i64 K)).setCell ⟨w'.heap.size, 1, none⟩ (.string { data := #[] })).setCell ⟨w'.heap.size, 2, none⟩ (.int .i64 T)).cell? ⟨w'.heap.size, 3, none⟩ = some (.int .i64 0) := (D3.2 3).1; have u3 := (D3.2 3).2; have D4 := D3.set 3 (by simp) (.int .i64 DD); have q4 : ((((wk.setCell ⟨w'.heap.size, 0, none⟩ (.int .i64 K)).setCell ⟨w'.heap.size, 1, none⟩ (.string { data := #[] })).setCell ⟨w'.heap.size, 2, none⟩ (.int .i64 T)).setCell ⟨w'.heap.size, 3, none⟩ (.int .i64 DD)).cell? ⟨w'.heap.size, 4, none⟩ = some (.slice none 0 0) := (D4.2 4).1; have u4 := (D4.2 4).2; have D5 := D4.set 4 (by simp) (.slice pk M ck))))
  all_goals
    first
    | (obtain ⟨V, hV⟩ : ∃ V, V = wk.alloc (.cells #[.int .i64 K, .string { data := #[] }, .int .i64 T, .int .i64 DD, .slice pk M ck] 24) := ⟨_, rfl⟩
       rw [← hV]
       have CV : Cells V wk.heap.size #[.int .i64 K, .string { data := #[] }, .int .i64 T, .int .i64 DD, .slice pk M ck] := by rw [hV]; exact Cells.made _ _ _
       have kV : Below w'.heap.size w' V := by rw [hV]; exact below_allocL (below_on (below_drewL (Below.refl _ _)) bk) _
       obtain ⟨lo, hi_, rV, hlo, hhi, hap⟩ : ∃ lo hi_, Own 5 V lo hi_ (.slice pk M ck) M XS ∧ w'.heap.size ≤ lo ∧ hi_ ≤ V.heap.size ∧ (wk.heap.size < lo ∨ hi_ ≤ wk.heap.size) := ⟨_, _, rk.on (made_eq hV), Nat.le_refl _, (made_eq hV).size, Or.inr (Nat.le_refl _)⟩
       obtain ⟨B, hB⟩ : ∃ B, B = wk.heap.size := ⟨_, rfl⟩
       have hBw : w'.heap.size ≤ B := by rw [hB]; exact bk.size
       rw [← hB] at CV hap ⊢
       clear hV hB)
    | (obtain ⟨V, hV⟩ : ∃ V, V = ((((wk.setCell ⟨w'.heap.size, 0, none⟩ (.int .i64 K)).setCell ⟨w'.heap.size, 1, none⟩ (.string { data := #[] })).setCell ⟨w'.heap.size, 2, none⟩ (.int .i64 T)).setCell ⟨w'.heap.size, 3, none⟩ (.int .i64 DD)).setCell ⟨w'.heap.size, 4, none⟩ (.slice pk M ck) := ⟨_, rfl⟩
       rw [← hV]
       have CV : Cells V w'.heap.size #[.int .i64 K, .string { data := #[] }, .int .i64 T, .int .i64 DD, .slice pk M ck] := by rw [hV]; exact D5
       have kV : Below w'.heap.size w' V := by rw [hV]; exact below_setA (below_setA (below_setA (below_setA (below_setA (below_on (below_allocL (below_drewL (Below.refl _ _)) _) bk) (Nat.le_refl _) _) (Nat.le_refl _) _) (Nat.le_refl _) _) (Nat.le_refl _) _) (Nat.le_refl _) _
       have hsz : V.heap.size = wk.heap.size := by rw [hV]; simp
       have hlt := Nat.lt_of_lt_of_le (Nat.lt_succ_self w'.heap.size) (Nat.le_of_eq (size_allocI w'.drew (.cells #[.int .i64 0, .string { data := #[] }, .int .i64 0, .int .i64 0, .slice none 0 0] 24)).symm)
       obtain ⟨lo, hi_, rV, hlo, hhi, hap⟩ : ∃ lo hi_, Own 5 V lo hi_ (.slice pk M ck) M XS ∧ w'.heap.size ≤ lo ∧ hi_ ≤ V.heap.size ∧ (w'.heap.size < lo ∨ hi_ ≤ w'.heap.size) := by
         refine ⟨_, _, ?_, Nat.le_of_lt hlt, Nat.le_of_eq hsz.symm, Or.inl hlt⟩
         rw [hV]
         exact own_set (own_set (own_set (own_set (own_set rk _ (Or.inl hlt)) _ (Or.inl hlt)) _ (Or.inl hlt)) _ (Or.inl hlt)) _ (Or.inl hlt)
       obtain ⟨B, hB⟩ : ∃ B, B = w'.heap.size := ⟨_, rfl⟩
       have hBw : w'.heap.size ≤ B := by rw [hB]; exact Nat.le_refl _
       rw [← hB] at CV hap ⊢
       clear hV hsz hlt D0 D1 D2 D3 D4 D5 q0 q1 q2 q3 q4 u0 u1 u2 u3 u4 hB)
    have cB0 : V.cell? ⟨B, 0, none⟩ = some (.int .i64 K) := (CV.2 0).1
    by_cases h3 : K = 3
    · have h3' : (K != 3) = false := by simp [h3]
      have hs3 : S = { data := #[] } := by rw [hS.out, if_pos h3]; rfl
      clear CH h3 hS
      go_wp2_with (fail)
      obtain ⟨U, hU⟩ : ∃ U, U = V := ⟨_, rfl⟩
      have CU : Cells U B #[.int .i64 K, .string S, .int .i64 T, .int .i64 DD, .slice pk M ck] := by rw [hU, hs3]; exact CV
      have kU : Below w'.heap.size w' U := by rw [hU]; exact kV
      have rU := rV
      rw [← hU] at rU hhi ⊢
      clear hU hs3 cB0
      have HK : ∀ w1, Below U.heap.size U w1 → w1.cell? ⟨B, 0, none⟩ = some (.int .i64 K) ∧ w1.cell? ⟨B, 1, none⟩ = some (.string S) ∧ w1.cell? ⟨B, 2, none⟩ = some (.int .i64 T) ∧ w1.cell? ⟨B, 3, none⟩ = some (.int .i64 DD) ∧ w1.cell? ⟨B, 4, none⟩ = some (.slice pk M ck) := fun w1 hX => ⟨((CU.on hX).2 0).1, ((CU.on hX).2 1).1, ((CU.on hX).2 2).1, ((CU.on hX).2 3).1, ((CU.on hX).2 4).1⟩
      have bdr : Below U.heap.size U U.drew := (Below.refl _ _).drew
      go_region_held3 (fun w1 => w1.cell? ⟨B, 0, none⟩ = some (.int .i64 K) ∧ w1.cell? ⟨B, 1, none⟩ = some (.string S) ∧ w1.cell? ⟨B, 2, none⟩ = some (.int .i64 T) ∧ w1.cell? ⟨B, 3, none⟩ = some (.int .i64 DD) ∧ w1.cell? ⟨B, 4, none⟩ = some (.slice pk M ck)) (exact HK _ (by repeat (with_reducible (first | exact Below.refl _ _ | refine below_drewL ?_ | refine below_on ?_ bq2 | refine below_on ?_ bq1)))) (first | (go_at_call 27; refine (LB _ _ _ (in_below rU.bytes (by repeat (with_reducible (first | exact Below.refl _ _ | refine below_drewL ?_ | refine below_on ?_ bq2 | refine below_on ?_ bq1))))).mono ?_; rintro z wq1 ⟨pq, cq, rfl, rq, bq1⟩) | (go_at_call 26; refine (SM _ _ _ rq.len (in_below rq.bytes (by repeat (with_reducible (first | exact Below.refl _ _ | refine below_drewL ?_ | refine below_on ?_ bq2 | refine below_on ?_ bq1)))) (below_on kU (by repeat (with_reducible (first | exact Below.refl _ _ | refine below_drewL ?_ | refine below_on ?_ bq2 | refine below_on ?_ bq1))))).mono ?_; rintro z wq2 ⟨rfl, bq2⟩))
      all_goals
        have bU : Below U.heap.size U wq2 := below_on (below_on bdr bq1) bq2
        have k2 := below_on kU bU
        have C2 := CU.on bU
        have r2 := rU.on bU
        clear bq1 bq2 bdr HK rq CU rU LB SM
        cases Q
        · go_wp2_with (fail)
          refine bodyPost_ret (v := .tuple #[.nilIface, .int .i64 0, .iface 44 (.agg #[.int .i64 (a : Int)])]) ?_ rfl ⟨pk, ck, by rw [hP0.out (by trivial)], own_wide r2 hlo (Nat.le_trans hhi bU.size), k2⟩
          simp only [results, Tryd.f16]
          go_simp
        · have d0 : wq2.cell? ⟨B, 0, none⟩ = some (.int .i64 K) := (C2.2 0).1
          have d1 : wq2.cell? ⟨B, 1, none⟩ = some (.string S) := (C2.2 1).1
          have d2 : wq2.cell? ⟨B, 2, none⟩ = some (.int .i64 T) := (C2.2 2).1
          have d3 : wq2.cell? ⟨B, 3, none⟩ = some (.int .i64 DD) := (C2.2 3).1
          have d4 : wq2.cell? ⟨B, 4, none⟩ = some (.slice pk M ck) := (C2.2 4).1
          go_wp2_with (fail)
          refine (OK.out (by trivial) _ _ _).mono ?_
          rintro z w5 ⟨rfl, b5⟩
          have k5 := below_on k2 b5
          have r5 := r2.on b5
          have hf := hP1.out (by trivial) pk ck
          generalize kindV K S T DD pk M ck = KV at hf ⊢
          go_wp2_with (fail)
          refine bodyPost_ret (v := .tuple #[KV, .int .i64 ((a + 18 + M : Nat) : Int), .nilIface]) ?_ rfl ⟨pk, ck, by rw [hf], own_wide r5 hlo (Nat.le_trans hhi (Nat.le_trans bU.size b5.size)), k5⟩
          simp only [results, Tryd.f16]
          go_simp
    · have h3' : (K != 3) = true := by simp [h3]
      have hs3 : S = HS := by rw [hS.out, if_neg h3]
      clear h3 hS
      go_wp2_with (fail)
      refine (CH V kV).mono ?_
      rintro z wh ⟨rfl, bh⟩
      have CH2 := CV.on bh
      have ch1 : wh.cell? ⟨B, 1, none⟩ = some (.string { data := #[] }) := (CH2.2 1).1
      have fh1 := (CH2.2 1).2
      obtain ⟨U, hU⟩ : ∃ U, U = wh.setCell ⟨B, 1, none⟩ (.string HS) := ⟨_, rfl⟩
      have CU : Cells U B #[.int .i64 K, .string S, .int .i64 T, .int .i64 DD, .slice pk M ck] := by rw [hU, hs3]; exact CH2.set 1 (by simp) (.string HS)
      have kU : Below w'.heap.size w' U := by rw [hU]; exact below_setA (below_on kV bh) hBw _
      have rU : Own 5 U lo hi_ (.slice pk M ck) M XS := by rw [hU]; exact own_set (rV.on bh) _ hap
      replace hhi : hi_ ≤ U.heap.size := by rw [hU]; exact Nat.le_trans hhi (Nat.le_trans bh.size (by simp))
      replace hU : Hid (wh.setCell ⟨B, 1, none⟩ (.string HS) = U) := hU.symm
      clear hs3 cB0 CH CV CH2
      go_wp2_with (rw [hU.out])
      clear hU ch1 fh1
      have HK : ∀ w1, Below U.heap.size U w1 → w1.cell? ⟨B, 0, none⟩ = some (.int .i64 K) ∧ w1.cell? ⟨B, 1, none⟩ = some (.string S) ∧ w1.cell? ⟨B, 2, none⟩ = some (.int .i64 T) ∧ w1.cell? ⟨B, 3, none⟩ = some (.int .i64 DD) ∧ w1.cell? ⟨B, 4, none⟩ = some (.slice pk M ck) := fun w1 hX => ⟨((CU.on hX).2 0).1, ((CU.on hX).2 1).1, ((CU.on hX).2 2).1, ((CU.on hX).2 3).1, ((CU.on hX).2 4).1⟩
      have bdr : Below U.heap.size U U.drew := (Below.refl _ _).drew
      go_region_held3 (fun w1 => w1.cell? ⟨B, 0, none⟩ = some (.int .i64 K) ∧ w1.cell? ⟨B, 1, none⟩ = some (.string S) ∧ w1.cell? ⟨B, 2, none⟩ = some (.int .i64 T) ∧ w1.cell? ⟨B, 3, none⟩ = some (.int .i64 DD) ∧ w1.cell? ⟨B, 4, none⟩ = some (.slice pk M ck)) (exact HK _ (by repeat (with_reducible (first | exact Below.refl _ _ | refine below_drewL ?_ | refine below_on ?_ bq2 | refine below_on ?_ bq1)))) (first | (go_at_call 27; refine (LB _ _ _ (in_below rU.bytes (by repeat (with_reducible (first | exact Below.refl _ _ | refine below_drewL ?_ | refine below_on ?_ bq2 | refine below_on ?_ bq1))))).mono ?_; rintro z wq1 ⟨pq, cq, rfl, rq, bq1⟩) | (go_at_call 26; refine (SM _ _ _ rq.len (in_below rq.bytes (by repeat (with_reducible (first | exact Below.refl _ _ | refine below_drewL ?_ | refine below_on ?_ bq2 | refine below_on ?_ bq1)))) (below_on kU (by repeat (with_reducible (first | exact Below.refl _ _ | refine below_drewL ?_ | refine below_on ?_ bq2 | refine below_on ?_ bq1))))).mono ?_; rintro z wq2 ⟨rfl, bq2⟩))
      all_goals
        have bU : Below U.heap.size U wq2 := below_on (below_on bdr bq1) bq2
        have k2 := below_on kU bU
        have C2 := CU.on bU
        have r2 := rU.on bU
        clear bq1 bq2 bdr HK rq CU rU LB SM
        cases Q
        · go_wp2_with (fail)
          refine bodyPost_ret (v := .tuple #[.nilIface, .int .i64 0, .iface 44 (.agg #[.int .i64 (a : Int)])]) ?_ rfl ⟨pk, ck, by rw [hP0.out (by trivial)], own_wide r2 hlo (Nat.le_trans hhi bU.size), k2⟩
          simp only [results, Tryd.f16]
          go_simp
        · have d0 : wq2.cell? ⟨B, 0, none⟩ = some (.int .i64 K) := (C2.2 0).1
          have d1 : wq2.cell? ⟨B, 1, none⟩ = some (.string S) := (C2.2 1).1
          have d2 : wq2.cell? ⟨B, 2, none⟩ = some (.int .i64 T) := (C2.2 2).1
          have d3 : wq2.cell? ⟨B, 3, none⟩ = some (.int .i64 DD) := (C2.2 3).1
          have d4 : wq2.cell? ⟨B, 4, none⟩ = some (.slice pk M ck) := (C2.2 4).1
          go_wp2_with (fail)
          refine (OK.out (by trivial) _ _ _).mono ?_
          rintro z w5 ⟨rfl, b5⟩
          have k5 := below_on k2 b5
          have r5 := r2.on b5
          have hf := hP1.out (by trivial) pk ck
          generalize kindV K S T DD pk M ck = KV at hf ⊢
          go_wp2_with (fail)
          refine bodyPost_ret (v := .tuple #[KV, .int .i64 ((a + 18 + M : Nat) : Int), .nilIface]) ?_ rfl ⟨pk, ck, by rw [hf], own_wide r5 hlo (Nat.le_trans hhi (Nat.le_trans bU.size b5.size)), k5⟩
          simp only [results, Tryd.f16]
          go_simp

end Go.Proofs.YtelfejgpphoifaaDoor
