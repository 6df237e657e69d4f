/-
  Whether a queue is right, as the program tells it: its items, then each row of its shelf, whatever the order of the map. Conditions: items that lie there, as many as a law hands over.
-/
import Derived.Test.YtggbmpgpopenoaaShelved
import Derived.Test.YtggbmpgpopenoaaRowOk
import Derived.Test.YtggbmpgpopenoaaSpecQueueOk
namespace Go.Proofs.Ytggbmpgpopenoaa
open Go.RowKit
set_option maxRecDepth 100000

theorem keyS_inv {key : Value} {l : Lit} (h : keyOf Try.prog 9 key = some l) : ∃ s : ByteArray, key = .string s ∧ l = kl s := by
  cases key <;> simp [keyOf, Try.underlying9, mapKey] at h
  obtain ⟨_, rfl⟩ := h
  exact ⟨_, rfl, rfl⟩
theorem SaysM.inv {D : DataW Value} {m : ByteArray → Option Value} (h : SaysM D m) {s : ByteArray} {v : Value} (hat : ∀ z, D.atKey (kl s) z = .held v) : m s = some v := by
  cases e : m s with
  | none =>
    have := (h s).1 e .nil
    rw [hat] at this
    cases this
  | some u =>
    have := (h s).2 u e .nil
    rw [hat] at this
    simp only [DataW.held.injEq] at this
    rw [this]

theorem row_not_iter {w : World} {B r n cnt : Nat} {D : DataW Value} {left : Lit → Bool} (h : w.ranges Try.prog 9 tokR B r n D left cnt) {lo e size k : Nat} {v u : Value} {xs : List Value} (hr : w.ownsRow lo e size u k xs) (hu : u = v) : v.ownBlock ≠ some r := by
  subst hu
  obtain ⟨es, clock, since, seen, c0, _, _, _, _, hb, _⟩ := h
  rcases hr.2 with ⟨rfl, _⟩ | ⟨g, cap, cur, rfl, _, hg, _⟩
  · simp [Value.ownBlock]
  · simp only [Value.ownBlock, ne_eq, Option.some.injEq]
    intro e
    rw [e, hb] at hg
    cases hg

theorem rwOk_iff (r : List PIt) : RwOk r ↔ r.length ≤ 4 ∧ r.Pairwise (fun a b => b.x.t ≠ 0 → a.x.t ≠ b.x.t) := by
  unfold RwOk
  refine and_congr_right fun _ => ?_
  rw [List.pairwise_iff_getElem]
  have eg : ∀ i (h : i < r.length), r.getD i default = r[i] := fun i h => by rw [List.getD_eq_getElem?_getD, List.getElem?_eq_getElem h]; rfl
  constructor
  · intro q i j hi hj hij h0 e
    have := q j hj (by rw [eg j hj]; exact h0)
    rw [eg j hj] at this
    have h1 : hasT r[j].x.t (r.take j) = true := List.any_eq_true.2 ⟨r[i], List.mem_take_iff_getElem.2 ⟨i, by omega, rfl⟩, by simp [e]⟩
    rw [this] at h1
    cases h1
  · intro q j hj h0
    rw [eg j hj] at h0 ⊢
    rw [Bool.eq_false_iff]
    intro h1
    obtain ⟨z, hz, e⟩ := List.any_eq_true.1 h1
    obtain ⟨i, hi, rfl⟩ := List.mem_take_iff_getElem.1 hz
    exact q i j (by omega) hj (by omega) h0 (by simpa using e)

theorem plL_items (its : List ItA) : (plL its).map PIt.x = its := by
  unfold plL
  rw [List.map_map]
  have : (PIt.x ∘ fun z : ItA × Nat => (⟨(z.2 : Int), z.1⟩ : PIt)) = Prod.fst := rfl
  rw [this, List.zipIdx_map_fst]

theorem ofR_count' (s : ByteArray) (its : List ItA) : (ofR s (plL its)).length = cntI s its := by
  have e : (ofR s (plL its)).length = (((plL its).map PIt.x).filter (fun x => decide (x.s = s))).length := by
    rw [List.filter_map, List.length_map]; rfl
  rw [e, plL_items, cntI, List.countP_eq_length_filter]

/-- All rows right, and each item: so is the queue. -/
theorem queue_rows (its : List ItA) (hi : ∀ x ∈ its, itB x.s x.t x.d x.n = true) (hlen : its.length ≤ 10) : qB its = true ↔ ∀ s, RwOk (ofR s (plL its)) := by
  have ht : ∀ x ∈ its, 0 ≤ x.t := fun x hx => by
    have := hi x hx
    simp only [itB, Bool.and_eq_true, decide_eq_true_eq] at this
    exact this.1.1.2.1
  have eg : ∀ i (h : i < its.length), its.getD i default = its[i] := fun i h => by rw [List.getD_eq_getElem?_getD, List.getElem?_eq_getElem h]; rfl
  have hq : qB its = true ↔ QOk its := by unfold qB; exact @decide_eq_true_iff _ (Classical.propDecidable _)
  have hp : (∀ s, (ofR s (plL its)).Pairwise (fun a b => b.x.t ≠ 0 → a.x.t ≠ b.x.t)) ↔ its.Pairwise (fun x y => ¬ clash x y) := by
    have e1 : its.Pairwise (fun x y => ¬ clash x y) ↔ (plL its).Pairwise (fun a b => ¬ clash a.x b.x) := by
      rw [← List.pairwise_map (f := PIt.x) (R := fun x y => ¬ clash x y), plL_items]
    rw [e1]
    have mem : ∀ z ∈ plL its, z.x ∈ its := fun z hz => by rw [← plL_items its]; exact List.mem_map.2 ⟨z, hz, rfl⟩
    constructor
    · intro q
      rw [List.pairwise_iff_forall_sublist]
      intro a b hab hc
      have hb : b ∈ plL its := hab.subset (by simp)
      have h2 := List.pairwise_filter.1 (q a.x.s)
      have h3 := (List.pairwise_iff_forall_sublist.1 h2) hab (by simp) (by simp [hc.1])
      exact h3 (by have := hc.2.2; omega) hc.2.1
    · intro q s
      rw [ofR, List.pairwise_filter]
      rw [List.pairwise_iff_forall_sublist] at q ⊢
      intro a b hab ha hb h0 e
      simp only [decide_eq_true_eq] at ha hb
      have h0' : 0 ≤ b.x.t := ht _ (mem b (hab.subset (by simp)))
      exact q hab ⟨ha.trans hb.symm, e, by omega⟩
  have hn : (∀ s, (ofR s (plL its)).length ≤ 4) ↔ ∀ i, i < its.length → cntI (its.getD i default).s its ≤ 4 := by
    constructor
    · intro q i _
      rw [← ofR_count']; exact q _
    · intro q s
      rw [ofR_count']
      by_cases e : cntI s its = 0
      · omega
      · obtain ⟨x, hx, he⟩ := List.countP_pos_iff.1 (Nat.pos_of_ne_zero e)
        simp only [decide_eq_true_eq] at he
        obtain ⟨i, hil, rfl⟩ := List.getElem_of_mem hx
        have := q i hil
        rwa [eg i hil, he] at this
  rw [hq]
  have hr : (∀ s, RwOk (ofR s (plL its))) ↔ (∀ s, (ofR s (plL its)).length ≤ 4) ∧ ∀ s, (ofR s (plL its)).Pairwise (fun a b => b.x.t ≠ 0 → a.x.t ≠ b.x.t) :=
    ⟨fun q => ⟨fun s => ((rwOk_iff _).1 (q s)).1, fun s => ((rwOk_iff _).1 (q s)).2⟩, fun q s => (rwOk_iff _).2 ⟨q.1 s, q.2 s⟩⟩
  rw [hr, hp, hn, List.pairwise_iff_getElem]
  constructor
  · intro q
    refine ⟨fun i h => (q.2 i h).2.1, fun i j hi' hj hij => ?_⟩
    have := (q.2 j hj).2.2 i hij
    rwa [eg i hi', eg j hj] at this
  · intro q
    refine ⟨hlen, fun i h => ⟨?_, q.1 i h, fun k hk => ?_⟩⟩
    · rw [eg i h]; exact hi _ (List.getElem_mem _)
    · rw [eg i h, eg k (by omega)]; exact q.2 k i (by omega) h hk

set_option maxHeartbeats 8000000 in
theorem implQueueOk_any (p : Option Addr) (n c : Nat) (its : List ItA) (w : World) (hn : n ≤ 1048576) (hl : its.length = n) (h : ItemsIn w p n its) (hs : ∀ x ∈ its, x.s.size ≤ 1048576) :
    Calls Try.prog 26 #[.slice p n c] w fun e w' => e = .returned (.bool (qB its)) ∧ Below w.heap.size w w' := by
  obtain ⟨R, hR⟩ : ∃ R : Bool, R = qB its := ⟨_, rfl⟩
  rw [← hR]
  by_cases h10 : (n : Int) ≤ 10
  · have hno : Hid (∀ x ∈ its, itB x.s x.t x.d x.n = false → R = false) := fun x hx hb => by
      rw [hR]
      refine qB_false fun q => ?_
      obtain ⟨i, hi, hxi⟩ := List.getElem_of_mem hx
      have := (q.2 i hi).1
      rw [show its.getD i default = x by rw [List.getD_eq_getElem?_getD, List.getElem?_eq_getElem hi, hxi]; rfl, hb] at this
      cases this
    have hrow : Hid ((∀ x ∈ its, itB x.s x.t x.d x.n = true) → (R = true ↔ ∀ s, RwOk (ofR s (plL its)))) := fun q => by rw [hR]; exact queue_rows its q (by omega)
    clear hR
    go_enter Try.func26, Try.ntmps26
    go_wp2_with (fail)
    go_loopw [12] (fun i wr => ∃ k : Nat, k ≤ n ∧ i = .int .i64 k ∧ Hid (∀ x ∈ its.take k, itB x.s x.t x.d x.n = true) ∧ Below w.heap.size w wr) (fun i _ => n - (intOf i).toNat)
    case atStart => exact ⟨0, Nat.zero_le _, rfl, fun x hx => by simp at hx, Below.refl _ _⟩
    case round =>
      obtain ⟨k, hk, rfl, hdone, hbel⟩ := hrel
      by_cases hlt : k < n
      · obtain ⟨b, o, rfl, hc⟩ := itemsIn_on h hbel (by omega)
        obtain ⟨x, hx⟩ : ∃ x, its.getD k default = x := ⟨_, rfl⟩
        obtain ⟨l0, l1, l2, l3⟩ := ItemsIn.at hc hlt hx
        have hxm : x ∈ its := hx ▸ getD_mem (by omega)
        have hsx := hs x hxm
        have hnx := hno.out x hxm
        have hmore : Hid (itB x.s x.t x.d x.n = true → ∀ y ∈ its.take (k + 1), itB y.s y.t y.d y.n = true) := fun q y hy => by
          rw [take_getD (by omega), hx] at hy
          rcases List.mem_append.1 hy with e | e
          · exact hdone.out y e
          · simp at e; rw [e]; exact q
        obtain ⟨s, t, d, xp, xn, xc, xs⟩ := x
        dsimp only at l0 l1 l2 l3 hsx hnx hmore
        obtain ⟨w3, hw3⟩ : ∃ w3, w3 = wr.alloc (.cells #[.string s, .int .i64 t, .int .i64 d, .slice xp xn xc] 26) := ⟨_, rfl⟩
        have b3 : Below wr.heap.size wr w3 := by rw [hw3]; exact made_below _ _ (Below.refl _ _)
        have C3 : Cells w3 wr.heap.size #[.string s, .int .i64 t, .int .i64 d, .slice xp xn xc] := by rw [hw3]; exact Cells.made _ _ _
        have m0 : w3.cell? ⟨wr.heap.size, 0, none⟩ = some (.string s) := (C3.2 0).1
        have m1 : w3.cell? ⟨wr.heap.size, 1, none⟩ = some (.int .i64 t) := (C3.2 1).1
        have m2 : w3.cell? ⟨wr.heap.size, 2, none⟩ = some (.int .i64 d) := (C3.2 2).1
        have m3 : w3.cell? ⟨wr.heap.size, 3, none⟩ = some (.slice xp xn xc) := (C3.2 3).1
        have hb3 := below_on hbel b3
        have C := implItemOk_any s t d xp xn xc w3 hsx
        replace hw3 : Hid (wr.alloc (.cells #[.string s, .int .i64 t, .int .i64 d, .slice xp xn xc] 26) = w3) := hw3.symm
        clear hc h hx hxm hs C3 b3 hbel hdone hno hrow
        cases hb : itB s t d xn
        · rw [hb] at C
          have hr := hnx hb
          subst hr
          clear hnx hb hmore
          go_wp2_with (rw [hw3.out])
          refine C.mono ?_
          rintro y w4 ⟨rfl, b4⟩
          have hb4 := below_on hb3 b4
          clear C hb3 b4
          go_wp2_with (fail)
          go_ret
          exact ⟨rfl, hb4⟩
        · rw [hb] at C
          replace hmore : Hid _ := hmore.out hb
          clear hnx hb
          go_wp2_with (rw [hw3.out])
          refine C.mono ?_
          rintro y w4 ⟨rfl, b4⟩
          have hb4 := below_on hb3 b4
          clear C hb3 b4
          go_wp2_with (fail)
          go_roundw
          case rel => exact ⟨k + 1, by omega, by go_num, hmore, hb4⟩
          case measure => simp [intOf]; omega
      · have hkn : k = n := by omega
        subst hkn
        rw [show its.take k = its by rw [← hl, List.take_length]] at hdone
        replace hrow := hrow.out hdone.out
        replace hrow : Hid (R = true ↔ ∀ s, RwOk (ofR s (plL its))) := hrow
        clear hno hdone
        go_wp2_with (fail)
        refine (shelved_any p k c its _ hn hl (itemsIn_on h hbel) hs).mono ?_
        rintro z w1 ⟨S, rfl, ⟨B, nn, m, hC, hlo, hnN, hR⟩, b1⟩
        have hbel1 := below_on hbel b1
        obtain ⟨D, hown, hsay⟩ := hR.map
        have l0 : w1.cell? ⟨S, 0, none⟩ = some (.map (some B)) := (hC.2 0).1
        clear hbel b1
        go_wp2_with (first
          | (at_range; refine wpList_range_own _ rfl _ 74 rfl 9 77 keyedS Try.underlying74 _ B nn _ rfl hown ?_; intro w0 hrg0 hg0 hs0)
          | go_in)
        go_frame
        obtain ⟨lo, hlo'⟩ : ∃ lo, lo = wr.heap.size := ⟨_, rfl⟩
        rw [← hlo'] at hR hlo
        clear hlo'
        obtain ⟨r, hr0⟩ : ∃ r, r = w1.heap.size := ⟨_, rfl⟩
        have hrlo : w.heap.size ≤ r := by have := hbel1.size; omega
        rw [← hr0] at hrg0 ⊢
        clear hr0 hs0
        have hR0 := hR.kept hg0 (by simp) (fun s v hv => hR.ne hv)
        have hbel0 : Below w.heap.size w w0 := hbel1.grown hg0 hbel1.size (fun _ h => by cases h)
        have hst : Hid (∀ s, m s ≠ none → Maps.has D (kl s) = false → RwOk (ofR s (plL its))) := fun s h1 h2 => by
          rw [hsay.has s] at h2
          cases e : m s with
          | none => exact absurd e h1
          | some v => rw [e] at h2; cases h2
        clear hC hlo l0 hown hR hbel1 hg0
        go_loopw [6] (fun _ wr => ∃ (left : Lit → Bool) (cnt : Nat), wr.ranges Try.prog 9 tokR B r nn D left cnt ∧ Rows13 wr lo S B nn m (plL its) ∧ Hid (∀ s, m s ≠ none → left (kl s) = false → RwOk (ofR s (plL its))) ∧ Below w.heap.size w wr) (fun _ wr => wr.rangeLeft B r)
        case atStart => exact ⟨_, _, hrg0, hR0, hst, hbel0⟩
        case round =>
          clear hrg0 hR0 hst hbel0
          obtain ⟨left, cnt, hrg, hRw, hseen, hbw⟩ := hrel
          go_wp2_with (first
            | (at_next; refine wpList_next_ranges _ rfl _ rfl 9 keyedS tokR Value.string (fun v : Value => v) (fun key l hk => by obtain ⟨s, e, _⟩ := keyS_inv hk; exact ⟨s, e⟩) (fun v _ _ => ⟨v, rfl⟩) B r nn D left cnt rfl hrg ?_ ?_)
            | go_in)
          · intro _ hl0
            have hr : R = true := hrow.out.2 fun s => by
              cases e : m s with
              | none =>
                by_cases e2 : ofR s (plL its) = []
                · rw [e2]; exact ⟨by simp, fun i hi => by simp at hi⟩
                · obtain ⟨v, hv, _⟩ := hRw.aRow s e2
                  rw [e] at hv; cases hv
              | some v => exact hseen.out s (by rw [e]; simp) (hl0 _)
            subst hr
            clear hrow hseen hrg hRw
            go_wp2_with (fail)
            go_ret
            exact ⟨rfl, hbw⟩
          · intro s v kl' yd yp w2 cnt2 hkey hlk hv hat hrg2 hlt2 hg2 hs2 hen
            obtain ⟨s', e1, rfl⟩ := keyS_inv hkey
            simp only [Value.string.injEq] at e1
            subst e1
            simp only [tokR, Option.some.injEq, Prod.mk.injEq] at hv
            obtain ⟨rfl, rfl⟩ := hv
            have hms := hsay.inv hat
            have hne : ofR s (plL its) ≠ [] := fun e => by rw [hRw.noRow s e] at hms; cases hms
            have hRw2 := hRw.kept hg2 (fun e => hrg.ne (by simp only [Option.some.injEq] at e; exact e.symm)) (fun y u hu => row_not_iter hrg (hRw.row y) (by rw [hu]; rfl))
            have hbw2 : Below w.heap.size w w2 := hbw.grown hg2 hbw.size (fun j hj => by cases hj; exact hrlo)
            have hro := hRw2.row s
            rw [hms] at hro
            obtain ⟨q, cc, rfl⟩ : ∃ q cc, v = .slice q (ofR s (plL its)).length cc := owns_form hro
            have CR := rowOk_any q (ofR s (plL its)).length cc (ofR s (plL its)) w2 (by have := ofR_len s (plL its); rw [plL_length] at this; omega) rfl (plIn_own hro rfl)
            have hsn2 : Hid (RwOk (ofR s (plL its)) → ∀ y, m y ≠ none → (fun z => left z && !z.sameKey (kl s)) (kl y) = false → RwOk (ofR y (plL its))) := fun q y h1 h2 => by
              by_cases e : y = s
              · rw [e]; exact q
              · refine hseen.out y h1 ?_
                have : (kl y).sameKey (kl s) = false := by
                  rw [Bool.eq_false_iff]
                  intro k
                  exact e (kl_inj (by simpa [kl, Lit.sameKey] using k))
                simpa [this] using h2
            have hms2 : ∀ {X : World}, Below w2.heap.size w2 X → X.ranges Try.prog 9 tokR B r nn D (fun z => left z && !z.sameKey (kl s)) cnt2 ∧ Rows13 X lo S B nn m (plL its) := fun bX => ⟨hrg2.kept (row := none) ⟨bX.os, bX.tape, bX.output, bX.size, fun k hk _ => bX.block k hk⟩ (by simp) (by simp), hRw2.on bX⟩
            have hcnt : wr.rangeLeft B r = cnt := hrg.left_eq
            by_cases hq : RwOk (ofR s (plL its))
            · rw [rwB_true hq] at CR
              replace hsn2 : Hid _ := hsn2.out hq
              clear hq hat hkey hlk hg2 hs2 hrg hRw hseen hro hne hrow hrg2 hRw2 hsay
              go_wp2_with (fail)
              refine CR.mono ?_
              rintro y w3 ⟨rfl, b3⟩
              have hX := hms2 b3
              have hb3 := below_on hbw2 b3
              clear CR b3 hbw2 hms2 hen
              go_wp2_with (fail)
              go_roundw
              case rel => exact ⟨_, cnt2, hX.1, hX.2, hsn2, hb3⟩
              case measure => rw [hX.1.left_eq, hcnt]; exact hlt2
            · rw [rwB_false hq] at CR
              have hr : R = false := by
                cases e : R with
                | false => rfl
                | true => exact absurd (hrow.out.1 e s) hq
              subst hr
              clear hq hat hkey hlk hg2 hs2 hrg hRw hseen hro hne hrow hrg2 hRw2 hsay hsn2 hms2 hcnt
              go_wp2_with (fail)
              refine CR.mono ?_
              rintro y w3 ⟨rfl, b3⟩
              have hb3 := below_on hbw2 b3
              clear CR b3 hbw2 hen
              go_wp2_with (fail)
              go_ret
              exact ⟨rfl, hb3⟩
  · have hr : R = false := by rw [hR]; exact qB_false fun q => h10 (by have := q.1; omega)
    subst hr
    clear hR
    go_enter Try.func26, Try.ntmps26
    go_wp2_with (fail)
    go_ret
    exact ⟨rfl, Below.refl _ _⟩

end Go.Proofs.Ytggbmpgpopenoaa
