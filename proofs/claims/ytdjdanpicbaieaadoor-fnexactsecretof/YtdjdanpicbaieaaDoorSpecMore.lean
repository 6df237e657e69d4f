/-
  What the specification's l3Table and l3More answer: the 64 numbers of the rounds; the 64 words of any 64 bytes; condition: they are bytes.
-/
import Derived.Test.YtdjdanpicbaieaaDoorSpecMix
import Derived.Test.YtdjdanpicbaieaaDoorWords
import Derived.Test.YtdjdanpicbaieaaDoorKeep
namespace Go.Proofs.YtdjdanpicbaieaaDoor
open Go.RowKit
set_option maxRecDepth 100000

def natsL (l : List Nat) : List Int := l.map fun (n : Nat) => (n : Int)
theorem natsL_length (l : List Nat) : (natsL l).length = l.length := by simp [natsL]
theorem natsL_getD (l : List Nat) (i : Nat) : (natsL l).getD i 0 = ((l.getD i 0 : Nat) : Int) := by
  simp only [natsL, List.getD_eq_getElem?_getD, List.getElem?_map]
  cases l[i]? <;> rfl
theorem natsL_append (l m : List Nat) : natsL (l ++ m) = natsL l ++ natsL m := by simp [natsL]
theorem natsL_take (l : List Nat) (k : Nat) : natsL (l.take k) = (natsL l).take k := by simp [natsL, List.map_take]

/-- The sixteen words of a block. -/
def wsOf (xs : List Int) : List Nat := (wordsL true xs 16).map Int.toNat
theorem wsOf_length (xs : List Int) : (wsOf xs).length = 16 := by simp [wsOf, wordsL_length]
theorem wsOf_nats (xs : List Int) : natsL (wsOf xs) = wordsL true xs 16 := by
  simp only [natsL, wsOf, wordsL, List.map_map]
  apply List.map_congr_left
  intro i _
  simp [wordAt]
theorem byte_lt {xs : List Int} (hb : ∀ x ∈ xs, 0 ≤ x ∧ x < 256) (i : Nat) : (xs.getD i 0).toNat < 256 := by
  rw [List.getD_eq_getElem?_getD]
  cases e : xs[i]? with
  | none => decide
  | some v =>
    have := hb v (List.mem_of_getElem? e)
    simp only [Option.getD_some]
    omega
theorem wsOf_lt {xs : List Int} (hb : ∀ x ∈ xs, 0 ≤ x ∧ x < 256) : ∀ x ∈ wsOf xs, x < 4294967296 := by
  intro x hx
  simp only [wsOf, wordsL, List.map_map, List.mem_map, Function.comp] at hx
  obtain ⟨i, _, rfl⟩ := hx
  have h0 := byte_lt hb (4 * i + 0)
  have h1 := byte_lt hb (4 * i + 1)
  have h2 := byte_lt hb (4 * i + 2)
  have h3 := byte_lt hb (4 * i + 3)
  simp only [wordAt, if_true, Int.toNat_natCast, four]
  omega

theorem ownsI_lit (w : World) (ty : Nat) (cs : Array Value) (n : Nat) (xs : List Int) (h : cs.toList = xs.map (Value.int .i64)) (hn : xs.length = n) (hm : n ≤ maxLen) :
    OwnI ty (w.alloc (.cells cs ty)) w.heap.size (w.heap.size + 1) (.slice (some ⟨w.heap.size, 0, none⟩) n n) n xs := by
  have hs : cs.size = n := by rw [← Array.length_toList, h, List.length_map, hn]
  refine ⟨⟨by simp [hn], .inr ⟨w.heap.size, n, cs, rfl, Nat.le_refl _, heap_alloc_new w _, Nat.le_refl _, hm, by simp [hs], ?_⟩⟩, ?_⟩
  · rw [h, List.take_of_length_le (by simp [hn])]
  · intro k hk
    simp [Value.ownBlock] at hk
    omega

theorem l3Table_any (w : World) :
    Calls Tryd.prog 97 #[] w fun e w' => ∃ p c, e = .returned (.slice p 64 c) ∧ OwnI 3 w' w.heap.size w'.heap.size (.slice p 64 c) 64 (natsL keysL) ∧ Below w.heap.size w w' := by
  go_enter Tryd.func97, Tryd.ntmps97
  go_wp2
  go_ret
  refine ⟨_, _, rfl, ?_, (Below.refl _ _).alloc (Nat.le_refl _) _⟩
  have h := ownsI_lit w 3 ((natsL keysL).map (Value.int .i64)).toArray 64 (natsL keysL) (by simp) (by simp [natsL, keysL]) (by unfold maxLen; omega)
  simpa [natsL, keysL] using h

theorem specWords64 (p : Option Addr) (c : Nat) (xs : List Int) (w : World) (hx : xs.length = 64) (h : BytesIn w p 64 xs) (hb : ∀ x ∈ xs, 0 ≤ x ∧ x < 256) :
    Calls Tryd.prog 116 #[.slice p 64 c, .bool true] w fun e w' => ∃ p' c', e = .returned (.slice p' 16 c') ∧ OwnI 3 w' w.heap.size w'.heap.size (.slice p' 16 c') 16 (natsL (wsOf xs)) ∧ Below w.heap.size w w' := by
  rw [wsOf_nats]
  exact specWords_any p 64 c true xs w (by omega) hx h hb

theorem more_step (l : List Nat) (k : Nat) (u : Nat) (hu : u = nextN (moreN l k) (16 + k)) : natsL (moreN l k) ++ [(u : Int)] = natsL (moreN l (k + 1)) := by
  subst hu
  simp [natsL, moreN]

set_option maxHeartbeats 4000000 in
theorem l3More_any (p : Option Addr) (c : Nat) (xs : List Int) (w : World) (hx : xs.length = 64) (h : BytesIn w p 64 xs) (hb : ∀ x ∈ xs, 0 ≤ x ∧ x < 256) :
    Calls Tryd.prog 96 #[.slice p 64 c] w fun e w' => ∃ p' c', e = .returned (.slice p' 64 c') ∧ OwnI 3 w' w.heap.size w'.heap.size (.slice p' 64 c') 64 (natsL (spreadN (wsOf xs))) ∧ Below w.heap.size w w' := by
  obtain ⟨i0, hi, hz0, hz1, hz2⟩ := info_parts infoInt
  have hwl := wsOf_length xs
  have hwt := wsOf_lt hb
  have C := fun w h => specWords64 p c xs w hx h hb
  unfold spreadN
  generalize wsOf xs = ws at hwl hwt C ⊢
  go_enter Tryd.func96, Tryd.ntmps96
  go_wp2_with (fail)
  refine (C _ h).mono ?_
  rintro e w1 ⟨p1, c1, rfl, r1, b1⟩
  have ho1 := r1.1
  clear C h hb hx r1
  go_wp2_with (fail)
  go_loopw [3, 4] (fun v i wr => ∃ k t : Nat, t = 16 + k ∧ k ≤ 48 ∧ i = .int .i64 t ∧ wr.ownsRow w.heap.size 3 1 v t ((natsL (moreN ws k)).map (Value.int .i64)) ∧ Below w.heap.size w wr)
    (fun _ i _ => 64 - (intOf i).toNat)
  case atStart => exact ⟨0, 16, rfl, by omega, rfl, ho1, b1⟩
  case round =>
    clear ho1 b1
    obtain ⟨k, t, ht, hk, rfl, hown, hbel⟩ := hrel
    have hsz := hbel.size
    by_cases hlt : k < 48
    · obtain ⟨p', cap0, hv⟩ := owns_form hown
      subst hv
      obtain ⟨g0, rfl⟩ := owns_at hown (by omega)
      have hg0 := (hown.lt g0 rfl).2
      have hml := moreN_lt hwt k
      have cell : ∀ j, j < t → wr.cell? ⟨g0, j, none⟩ = some (.int .i64 (((moreN ws k).getD j 0 : Nat) : Int)) := by
        intro j hj
        have hl2 : (moreN ws k).length = t := by rw [moreN_length, hwl, ht]
        rw [hown.cellAt j (by omega), ← natsL_getD, List.getElem?_map, List.getD_eq_getElem?_getD, List.getElem?_eq_getElem (by rw [natsL_length]; omega)]
        rfl
      obtain ⟨j2, hj2⟩ : ∃ j2, t = j2 + 2 := ⟨t - 2, by omega⟩
      obtain ⟨j7, hj7⟩ : ∃ j7, t = j7 + 7 := ⟨t - 7, by omega⟩
      obtain ⟨j15, hj15⟩ : ∃ j15, t = j15 + 15 := ⟨t - 15, by omega⟩
      obtain ⟨j16, hj16⟩ : ∃ j16, t = j16 + 16 := ⟨t - 16, by omega⟩
      have l2 : j2 < t := by omega
      have l7 : j7 < t := by omega
      have l15 : j15 < t := by omega
      have l16 : j16 < t := by omega
      have d2 := cell j2 l2
      have d7 := cell j7 l7
      have d15 := cell j15 l15
      have d16 := cell j16 l16
      have m2 := getD_lt hml (by decide) j2
      have m7 := getD_lt hml (by decide) j7
      have m15 := getD_lt hml (by decide) j15
      have m16 := getD_lt hml (by decide) j16
      have HU : Hid (∀ u, u = (smallN ((moreN ws k).getD j2 0) 17 19 10 + (moreN ws k).getD j7 0 + smallN ((moreN ws k).getD j15 0) 7 18 3 + (moreN ws k).getD j16 0) % 4294967296 → natsL (moreN ws k) ++ [(u : Int)] = natsL (moreN ws (k + 1))) := by
        intro u hu
        refine more_step ws k u ?_
        unfold nextN
        rw [← ht, show t - 2 = j2 by omega, show t - 7 = j7 by omega, show t - 15 = j15 by omega, show t - 16 = j16 by omega]
        exact hu
      clear cell hml
      generalize (moreN ws k).getD j2 0 = a2 at d2 m2 HU
      generalize (moreN ws k).getD j7 0 = a7 at d7 m7 HU
      generalize (moreN ws k).getD j15 0 = a15 at d15 m15 HU
      generalize (moreN ws k).getD j16 0 = a16 at d16 m16 HU
      have C1 := fun w => l3Mix_s1 a2 w m2
      have C0 := fun w => l3Mix_s0 a15 w m15
      have n1 := smallN_lt (a := 17) (b := 19) (c := 10) m2 (by decide) (by decide)
      have n0 := smallN_lt (a := 7) (b := 18) (c := 3) m15 (by decide) (by decide)
      generalize smallN a2 17 19 10 = r1 at C1 n1 HU
      generalize smallN a15 7 18 3 = r0 at C0 n0 HU
      obtain ⟨u, hu⟩ : ∃ u, u = (r1 + a7 + r0 + a16) % 4294967296 := ⟨_, rfl⟩
      have HN : Hid (natsL (moreN ws k) ++ [(u : Int)] = natsL (moreN ws (k + 1))) := HU.out u hu
      have CW : ∀ w, Calls Tryd.prog 98 #[.int .i64 ((r1 : Int) + a7 + r0 + a16)] w fun e w' => e = .returned (.int .i64 (u : Int)) ∧ w' = w := by
        intro w
        have := specWord_same ((r1 : Int) + a7 + r0 + a16) w
        rw [show ((r1 : Int) + a7 + r0 + a16) % 4294967296 = (u : Int) by omega] at this
        exact this
      have HK : ∀ w', Below wr.heap.size wr w' → w'.cell? ⟨g0, j2, none⟩ = some (.int .i64 (a2 : Int)) ∧ w'.cell? ⟨g0, j7, none⟩ = some (.int .i64 (a7 : Int)) ∧ w'.cell? ⟨g0, j15, none⟩ = some (.int .i64 (a15 : Int)) ∧ w'.cell? ⟨g0, j16, none⟩ = some (.int .i64 (a16 : Int)) := fun w' hB => ⟨(hB.cell (p := ⟨g0, j2, none⟩) hg0).trans d2, (hB.cell (p := ⟨g0, j7, none⟩) hg0).trans d7, (hB.cell (p := ⟨g0, j15, none⟩) hg0).trans d15, (hB.cell (p := ⟨g0, j16, none⟩) hg0).trans d16⟩
      have v2 : IntKind.i64.wrap ((t : Int) - 2) = (j2 : Int) := by rw [IntKind.wrap_i64]; omega
      have v7 : IntKind.i64.wrap ((t : Int) - 7) = (j7 : Int) := by rw [IntKind.wrap_i64]; omega
      have v15 : IntKind.i64.wrap ((t : Int) - 15) = (j15 : Int) := by rw [IntKind.wrap_i64]; omega
      have v16 : IntKind.i64.wrap ((t : Int) - 16) = (j16 : Int) := by rw [IntKind.wrap_i64]; omega
      have q1 : IntKind.i64.wrap ((r1 : Int) + a7) = (r1 : Int) + a7 := by rw [IntKind.wrap_i64]; omega
      have q2 : IntKind.i64.wrap ((r1 : Int) + a7 + r0) = (r1 : Int) + a7 + r0 := by rw [IntKind.wrap_i64]; omega
      have q3 : IntKind.i64.wrap ((r1 : Int) + a7 + r0 + a16) = (r1 : Int) + a7 + r0 + a16 := by rw [IntKind.wrap_i64]; omega
      clear HU hu d2 d7 d15 d16
      have htl : t < 64 := by omega
      have HT : Hid (t = 16 + k) := ht
      clear hj2 hj7 hj15 hj16 ht
      go_wp2_with (fail)
      go_region_held3 (fun w' => w'.cell? ⟨g0, j2, none⟩ = some (.int .i64 (a2 : Int)) ∧ w'.cell? ⟨g0, j7, none⟩ = some (.int .i64 (a7 : Int)) ∧ w'.cell? ⟨g0, j15, none⟩ = some (.int .i64 (a15 : Int)) ∧ w'.cell? ⟨g0, j16, none⟩ = some (.int .i64 (a16 : Int)))
        (first | exact hS3 | exact HK _ e2 | exact HK _ e1 | exact HK _ (e2.alloc e2.size _) | exact HK _ (Below.refl _ _) | exact HK _ (Below.refl _ _).drew)
        (first | (go_at_call_of 99 a2; refine (C1 _).mono ?_; rintro e w1 ⟨rfl, dn1, hw1⟩; have e1 : Below wr.heap.size wr w1 := (by rw [hw1]; exact below_drewN (Below.refl _ _).drew _); clear hw1) | (go_at_call_of 99 a15; refine (C0 _).mono ?_; rintro e w2 ⟨rfl, dn2, hw2⟩; have e2 : Below wr.heap.size wr w2 := (by rw [hw2]; exact below_drewN e1 _); clear hw2) | (go_at_call 98; refine (CW _).mono ?_; rintro e w3 ⟨rfl, rfl⟩) | (refine step_pushKeep hi hz0 hz1 hz2 (.tmp 11) (.tmp 38) 88 Tryd.underlying88 (u : Int) g0 cap0 _ (heap_alloc_new _ _) ((owns_below hown e2).alloc _) (by omega) (by have := e2.size; simp; omega) (by rfl) (by rfl) (by rfl) (by rfl) ?_; intro g cap w4 ho4 hb4 hk4; have hS3 := And.intro ((hk4 j2 l2).trans (HK _ (e2.alloc e2.size _)).1) (And.intro ((hk4 j7 l7).trans (HK _ (e2.alloc e2.size _)).2.1) (And.intro ((hk4 j15 l15).trans (HK _ (e2.alloc e2.size _)).2.2.1) ((hk4 j16 l16).trans (HK _ (e2.alloc e2.size _)).2.2.2)))))
      rw [HN.out] at ho4
      go_wp2
      go_roundw
      case rel => exact ⟨k + 1, t + 1, by have := HT.out; omega, by omega, by go_num, ho4, (below_on hbel (e2.alloc e2.size _)).trans hb4⟩
      case measure => simp [intOf]; omega
    · obtain rfl : k = 48 := by omega
      obtain rfl : t = 64 := by omega
      obtain ⟨p', c', hv⟩ := owns_form hown
      subst hv
      go_wp2
      go_ret
      exact ⟨_, _, rfl, .of hown, hbel⟩

end Go.Proofs.YtdjdanpicbaieaaDoor
