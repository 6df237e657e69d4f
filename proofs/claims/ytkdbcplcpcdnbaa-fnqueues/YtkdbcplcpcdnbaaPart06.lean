/-
  Whether a queue is right, as the program tells it: its items, then each row of its shelf, whatever the order of the map. Conditions: items that lie there, as many as a law hands over.
  (*shelf).told: all that waits, in the order in which it came. Conditions: a shelf of no more than a law hands over, places that rise.
  (*shelf).leave and (*shelf).take; what is told of a shelf whose rows are only read. Conditions: a shelf of no more than a law hands over.
  slices.DeleteFunc on a row of a shelf. Conditions: a row of one's own, a test that turns nothing, whatever it asks.
-/
import Derived.Test.YtkdbcplcpcdnbaaPart05
import Derived.Test.YtkdbcplcpcdnbaaPart04
import Derived.Lib.SliceRun
namespace Go.Proofs.Ytkdbcplcpcdnbaa
open Go.RowKit
set_option maxRecDepth 100000

theorem keyS_inv {key : Value} {l : Lit} (h : keyOf Try.prog 9 key = some l) : ∃ s : ByteArray, key = .string s ∧ l = kl s := by
  cases key <;> simp [keyOf, Try.underlying9, mapKey] at h
  obtain ⟨_, rfl⟩ := h
  exact ⟨_, rfl, rfl⟩
theorem SaysM.inv {D : DataW Value} {m : ByteArray → Option Value} (h : SaysM D m) {s : ByteArray} {v : Value} (hat : ∀ z, D.atKey (kl s) z = .held v) : m s = some v := by
  cases e : m s with
  | none =>
    have := (h s).1 e .nil
    rw [hat] at this
    cases this
  | some u =>
    have := (h s).2 u e .nil
    rw [hat] at this
    simp only [DataW.held.injEq] at this
    rw [this]

theorem row_not_iter {w : World} {B r n cnt : Nat} {D : DataW Value} {left : Lit → Bool} (h : w.ranges Try.prog 9 tokR B r n D left cnt) {lo e size k : Nat} {v u : Value} {xs : List Value} (hr : w.ownsRow lo e size u k xs) (hu : u = v) : v.ownBlock ≠ some r := by
  subst hu
  obtain ⟨es, clock, since, seen, c0, _, _, _, _, hb, _⟩ := h
  rcases hr.2 with ⟨rfl, _⟩ | ⟨g, cap, cur, rfl, _, hg, _⟩
  · simp [Value.ownBlock]
  · simp only [Value.ownBlock, ne_eq, Option.some.injEq]
    intro e
    rw [e, hb] at hg
    cases hg

theorem rwOk_iff (r : List PIt) : RwOk r ↔ r.length ≤ 4 ∧ r.Pairwise (fun a b => b.x.t ≠ 0 → a.x.t ≠ b.x.t) := by
  unfold RwOk
  refine and_congr_right fun _ => ?_
  rw [List.pairwise_iff_getElem]
  have eg : ∀ i (h : i < r.length), r.getD i default = r[i] := fun i h => by rw [List.getD_eq_getElem?_getD, List.getElem?_eq_getElem h]; rfl
  constructor
  · intro q i j hi hj hij h0 e
    have := q j hj (by rw [eg j hj]; exact h0)
    rw [eg j hj] at this
    have h1 : hasT r[j].x.t (r.take j) = true := List.any_eq_true.2 ⟨r[i], List.mem_take_iff_getElem.2 ⟨i, by omega, rfl⟩, by simp [e]⟩
    rw [this] at h1
    cases h1
  · intro q j hj h0
    rw [eg j hj] at h0 ⊢
    rw [Bool.eq_false_iff]
    intro h1
    obtain ⟨z, hz, e⟩ := List.any_eq_true.1 h1
    obtain ⟨i, hi, rfl⟩ := List.mem_take_iff_getElem.1 hz
    exact q i j (by omega) hj (by omega) h0 (by simpa using e)

theorem plL_items (its : List ItA) : (plL its).map PIt.x = its := by
  unfold plL
  rw [List.map_map]
  have : (PIt.x ∘ fun z : ItA × Nat => (⟨(z.2 : Int), z.1⟩ : PIt)) = Prod.fst := rfl
  rw [this, List.zipIdx_map_fst]

theorem ofR_count' (s : ByteArray) (its : List ItA) : (ofR s (plL its)).length = cntI s its := by
  have e : (ofR s (plL its)).length = (((plL its).map PIt.x).filter (fun x => decide (x.s = s))).length := by
    rw [List.filter_map, List.length_map]; rfl
  rw [e, plL_items, cntI, List.countP_eq_length_filter]

/-- All rows right, and each item: so is the queue. -/
theorem queue_rows (its : List ItA) (hi : ∀ x ∈ its, itB x.s x.t x.d x.n = true) (hlen : its.length ≤ 10) : qB its = true ↔ ∀ s, RwOk (ofR s (plL its)) := by
  have ht : ∀ x ∈ its, 0 ≤ x.t := fun x hx => by
    have := hi x hx
    simp only [itB, Bool.and_eq_true, decide_eq_true_eq] at this
    exact this.1.1.2.1
  have eg : ∀ i (h : i < its.length), its.getD i default = its[i] := fun i h => by rw [List.getD_eq_getElem?_getD, List.getElem?_eq_getElem h]; rfl
  have hq : qB its = true ↔ QOk its := by unfold qB; exact @decide_eq_true_iff _ (Classical.propDecidable _)
  have hp : (∀ s, (ofR s (plL its)).Pairwise (fun a b => b.x.t ≠ 0 → a.x.t ≠ b.x.t)) ↔ its.Pairwise (fun x y => ¬ clash x y) := by
    have e1 : its.Pairwise (fun x y => ¬ clash x y) ↔ (plL its).Pairwise (fun a b => ¬ clash a.x b.x) := by
      rw [← List.pairwise_map (f := PIt.x) (R := fun x y => ¬ clash x y), plL_items]
    rw [e1]
    have mem : ∀ z ∈ plL its, z.x ∈ its := fun z hz => by rw [← plL_items its]; exact List.mem_map.2 ⟨z, hz, rfl⟩
    constructor
    · intro q
      rw [List.pairwise_iff_forall_sublist]
      intro a b hab hc
      have hb : b ∈ plL its := hab.subset (by simp)
      have h2 := List.pairwise_filter.1 (q a.x.s)
      have h3 := (List.pairwise_iff_forall_sublist.1 h2) hab (by simp) (by simp [hc.1])
      exact h3 (by have := hc.2.2; omega) hc.2.1
    · intro q s
      rw [ofR, List.pairwise_filter]
      rw [List.pairwise_iff_forall_sublist] at q ⊢
      intro a b hab ha hb h0 e
      simp only [decide_eq_true_eq] at ha hb
      have h0' : 0 ≤ b.x.t := ht _ (mem b (hab.subset (by simp)))
      exact q hab ⟨ha.trans hb.symm, e, by omega⟩
  have hn : (∀ s, (ofR s (plL its)).length ≤ 4) ↔ ∀ i, i < its.length → cntI (its.getD i default).s its ≤ 4 := by
    constructor
    · intro q i _
      rw [← ofR_count']; exact q _
    · intro q s
      rw [ofR_count']
      by_cases e : cntI s its = 0
      · omega
      · obtain ⟨x, hx, he⟩ := List.countP_pos_iff.1 (Nat.pos_of_ne_zero e)
        simp only [decide_eq_true_eq] at he
        obtain ⟨i, hil, rfl⟩ := List.getElem_of_mem hx
        have := q i hil
        rwa [eg i hil, he] at this
  rw [hq]
  have hr : (∀ s, RwOk (ofR s (plL its))) ↔ (∀ s, (ofR s (plL its)).length ≤ 4) ∧ ∀ s, (ofR s (plL its)).Pairwise (fun a b => b.x.t ≠ 0 → a.x.t ≠ b.x.t) :=
    ⟨fun q => ⟨fun s => ((rwOk_iff _).1 (q s)).1, fun s => ((rwOk_iff _).1 (q s)).2⟩, fun q s => (rwOk_iff _).2 ⟨q.1 s, q.2 s⟩⟩
  rw [hr, hp, hn, List.pairwise_iff_getElem]
  constructor
  · intro q
    refine ⟨fun i h => (q.2 i h).2.1, fun i j hi' hj hij => ?_⟩
    have := (q.2 j hj).2.2 i hij
    rwa [eg i hi', eg j hj] at this
  · intro q
    refine ⟨hlen, fun i h => ⟨?_, q.1 i h, fun k hk => ?_⟩⟩
    · rw [eg i h]; exact hi _ (List.getElem_mem _)
    · rw [eg i h, eg k (by omega)]; exact q.2 k i (by omega) h hk

set_option maxHeartbeats 8000000 in
theorem implQueueOk_any (p : Option Addr) (n c : Nat) (its : List ItA) (w : World) (hn : n ≤ 1048576) (hl : its.length = n) (h : ItemsIn w p n its) (hs : ∀ x ∈ its, x.s.size ≤ 1048576) :
    Calls Try.prog 23 #[.slice p n c] w fun e w' => e = .returned (.bool (qB its)) ∧ Below w.heap.size w w' := by
  obtain ⟨R, hR⟩ : ∃ R : Bool, R = qB its := ⟨_, rfl⟩
  rw [← hR]
  by_cases h10 : (n : Int) ≤ 10
  · have hno : Hid (∀ x ∈ its, itB x.s x.t x.d x.n = false → R = false) := fun x hx hb => by
      rw [hR]
      refine qB_false fun q => ?_
      obtain ⟨i, hi, hxi⟩ := List.getElem_of_mem hx
      have := (q.2 i hi).1
      rw [show its.getD i default = x by rw [List.getD_eq_getElem?_getD, List.getElem?_eq_getElem hi, hxi]; rfl, hb] at this
      cases this
    have hrow : Hid ((∀ x ∈ its, itB x.s x.t x.d x.n = true) → (R = true ↔ ∀ s, RwOk (ofR s (plL its)))) := fun q => by rw [hR]; exact queue_rows its q (by omega)
    clear hR
    go_enter Try.func23, Try.ntmps23
    go_wp2_with (fail)
    go_loopw [12] (fun i wr => ∃ k : Nat, k ≤ n ∧ i = .int .i64 k ∧ Hid (∀ x ∈ its.take k, itB x.s x.t x.d x.n = true) ∧ Below w.heap.size w wr) (fun i _ => n - (intOf i).toNat)
    case atStart => exact ⟨0, Nat.zero_le _, rfl, fun x hx => by simp at hx, Below.refl _ _⟩
    case round =>
      obtain ⟨k, hk, rfl, hdone, hbel⟩ := hrel
      by_cases hlt : k < n
      · obtain ⟨b, o, rfl, hc⟩ := itemsIn_on h hbel (by omega)
        obtain ⟨x, hx⟩ : ∃ x, its.getD k default = x := ⟨_, rfl⟩
        obtain ⟨l0, l1, l2, l3⟩ := ItemsIn.at hc hlt hx
        have hxm : x ∈ its := hx ▸ getD_mem (by omega)
        have hsx := hs x hxm
        have hnx := hno.out x hxm
        have hmore : Hid (itB x.s x.t x.d x.n = true → ∀ y ∈ its.take (k + 1), itB y.s y.t y.d y.n = true) := fun q y hy => by
          rw [take_getD (by omega), hx] at hy
          rcases List.mem_append.1 hy with e | e
          · exact hdone.out y e
          · simp at e; rw [e]; exact q
        obtain ⟨s, t, d, xp, xn, xc, xs⟩ := x
        dsimp only at l0 l1 l2 l3 hsx hnx hmore
        obtain ⟨w3, hw3⟩ : ∃ w3, w3 = wr.alloc (.cells #[.string s, .int .i64 t, .int .i64 d, .slice xp xn xc] 26) := ⟨_, rfl⟩
        have b3 : Below wr.heap.size wr w3 := by rw [hw3]; exact made_below _ _ (Below.refl _ _)
        have C3 : Cells w3 wr.heap.size #[.string s, .int .i64 t, .int .i64 d, .slice xp xn xc] := by rw [hw3]; exact Cells.made _ _ _
        have m0 : w3.cell? ⟨wr.heap.size, 0, none⟩ = some (.string s) := (C3.2 0).1
        have m1 : w3.cell? ⟨wr.heap.size, 1, none⟩ = some (.int .i64 t) := (C3.2 1).1
        have m2 : w3.cell? ⟨wr.heap.size, 2, none⟩ = some (.int .i64 d) := (C3.2 2).1
        have m3 : w3.cell? ⟨wr.heap.size, 3, none⟩ = some (.slice xp xn xc) := (C3.2 3).1
        have hb3 := below_on hbel b3
        have C := implItemOk_any s t d xp xn xc w3 hsx
        replace hw3 : Hid (wr.alloc (.cells #[.string s, .int .i64 t, .int .i64 d, .slice xp xn xc] 26) = w3) := hw3.symm
        clear hc h hx hxm hs C3 b3 hbel hdone hno hrow
        cases hb : itB s t d xn
        · rw [hb] at C
          have hr := hnx hb
          subst hr
          clear hnx hb hmore
          go_wp2_with (rw [hw3.out])
          refine C.mono ?_
          rintro y w4 ⟨rfl, b4⟩
          have hb4 := below_on hb3 b4
          clear C hb3 b4
          go_wp2_with (fail)
          go_ret
          exact ⟨rfl, hb4⟩
        · rw [hb] at C
          replace hmore : Hid _ := hmore.out hb
          clear hnx hb
          go_wp2_with (rw [hw3.out])
          refine C.mono ?_
          rintro y w4 ⟨rfl, b4⟩
          have hb4 := below_on hb3 b4
          clear C hb3 b4
          go_wp2_with (fail)
          go_roundw
          case rel => exact ⟨k + 1, by omega, by go_num, hmore, hb4⟩
          case measure => simp [intOf]; omega
      · have hkn : k = n := by omega
        subst hkn
        rw [show its.take k = its by rw [← hl, List.take_length]] at hdone
        replace hrow := hrow.out hdone.out
        replace hrow : Hid (R = true ↔ ∀ s, RwOk (ofR s (plL its))) := hrow
        clear hno hdone
        go_wp2_with (fail)
        refine (shelved_any p k c its _ hn hl (itemsIn_on h hbel) hs).mono ?_
        rintro z w1 ⟨S, rfl, ⟨B, nn, m, hC, hlo, hnN, hR⟩, b1⟩
        have hbel1 := below_on hbel b1
        obtain ⟨D, hown, hsay⟩ := hR.map
        have l0 : w1.cell? ⟨S, 0, none⟩ = some (.map (some B)) := (hC.2 0).1
        clear hbel b1
        go_wp2_with (first
          | (at_range; refine wpList_range_own _ rfl _ 73 rfl 9 76 keyedS Try.underlying73 _ B nn _ rfl hown ?_; intro w0 hrg0 hg0 hs0)
          | go_in)
        go_frame
        obtain ⟨lo, hlo'⟩ : ∃ lo, lo = wr.heap.size := ⟨_, rfl⟩
        rw [← hlo'] at hR hlo
        clear hlo'
        obtain ⟨r, hr0⟩ : ∃ r, r = w1.heap.size := ⟨_, rfl⟩
        have hrlo : w.heap.size ≤ r := by have := hbel1.size; omega
        rw [← hr0] at hrg0 ⊢
        clear hr0 hs0
        have hR0 := hR.kept hg0 (by simp) (fun s v hv => hR.ne hv)
        have hbel0 : Below w.heap.size w w0 := hbel1.grown hg0 hbel1.size (fun _ h => by cases h)
        have hst : Hid (∀ s, m s ≠ none → Maps.has D (kl s) = false → RwOk (ofR s (plL its))) := fun s h1 h2 => by
          rw [hsay.has s] at h2
          cases e : m s with
          | none => exact absurd e h1
          | some v => rw [e] at h2; cases h2
        clear hC hlo l0 hown hR hbel1 hg0
        go_loopw [6] (fun _ wr => ∃ (left : Lit → Bool) (cnt : Nat), wr.ranges Try.prog 9 tokR B r nn D left cnt ∧ Rows13 wr lo S B nn m (plL its) ∧ Hid (∀ s, m s ≠ none → left (kl s) = false → RwOk (ofR s (plL its))) ∧ Below w.heap.size w wr) (fun _ wr => wr.rangeLeft B r)
        case atStart => exact ⟨_, _, hrg0, hR0, hst, hbel0⟩
        case round =>
          clear hrg0 hR0 hst hbel0
          obtain ⟨left, cnt, hrg, hRw, hseen, hbw⟩ := hrel
          go_wp2_with (first
            | (at_next; refine wpList_next_ranges _ rfl _ rfl 9 keyedS tokR Value.string (fun v : Value => v) (fun key l hk => by obtain ⟨s, e, _⟩ := keyS_inv hk; exact ⟨s, e⟩) (fun v _ _ => ⟨v, rfl⟩) B r nn D left cnt rfl hrg ?_ ?_)
            | go_in)
          · intro _ hl0
            have hr : R = true := hrow.out.2 fun s => by
              cases e : m s with
              | none =>
                by_cases e2 : ofR s (plL its) = []
                · rw [e2]; exact ⟨by simp, fun i hi => by simp at hi⟩
                · obtain ⟨v, hv, _⟩ := hRw.aRow s e2
                  rw [e] at hv; cases hv
              | some v => exact hseen.out s (by rw [e]; simp) (hl0 _)
            subst hr
            clear hrow hseen hrg hRw
            go_wp2_with (fail)
            go_ret
            exact ⟨rfl, hbw⟩
          · intro s v kl' yd yp w2 cnt2 hkey hlk hv hat hrg2 hlt2 hg2 hs2 hen
            obtain ⟨s', e1, rfl⟩ := keyS_inv hkey
            simp only [Value.string.injEq] at e1
            subst e1
            simp only [tokR, Option.some.injEq, Prod.mk.injEq] at hv
            obtain ⟨rfl, rfl⟩ := hv
            have hms := hsay.inv hat
            have hne : ofR s (plL its) ≠ [] := fun e => by rw [hRw.noRow s e] at hms; cases hms
            have hRw2 := hRw.kept hg2 (fun e => hrg.ne (by simp only [Option.some.injEq] at e; exact e.symm)) (fun y u hu => row_not_iter hrg (hRw.row y) (by rw [hu]; rfl))
            have hbw2 : Below w.heap.size w w2 := hbw.grown hg2 hbw.size (fun j hj => by cases hj; exact hrlo)
            have hro := hRw2.row s
            rw [hms] at hro
            obtain ⟨q, cc, rfl⟩ : ∃ q cc, v = .slice q (ofR s (plL its)).length cc := owns_form hro
            have CR := rowOk_any q (ofR s (plL its)).length cc (ofR s (plL its)) w2 (by have := ofR_len s (plL its); rw [plL_length] at this; omega) rfl (plIn_own hro rfl)
            have hsn2 : Hid (RwOk (ofR s (plL its)) → ∀ y, m y ≠ none → (fun z => left z && !z.sameKey (kl s)) (kl y) = false → RwOk (ofR y (plL its))) := fun q y h1 h2 => by
              by_cases e : y = s
              · rw [e]; exact q
              · refine hseen.out y h1 ?_
                have : (kl y).sameKey (kl s) = false := by
                  rw [Bool.eq_false_iff]
                  intro k
                  exact e (kl_inj (by simpa [kl, Lit.sameKey] using k))
                simpa [this] using h2
            have hms2 : ∀ {X : World}, Below w2.heap.size w2 X → X.ranges Try.prog 9 tokR B r nn D (fun z => left z && !z.sameKey (kl s)) cnt2 ∧ Rows13 X lo S B nn m (plL its) := fun bX => ⟨hrg2.kept (row := none) ⟨bX.os, bX.tape, bX.output, bX.size, fun k hk _ => bX.block k hk⟩ (by simp) (by simp), hRw2.on bX⟩
            have hcnt : wr.rangeLeft B r = cnt := hrg.left_eq
            by_cases hq : RwOk (ofR s (plL its))
            · rw [rwB_true hq] at CR
              replace hsn2 : Hid _ := hsn2.out hq
              clear hq hat hkey hlk hg2 hs2 hrg hRw hseen hro hne hrow hrg2 hRw2 hsay
              go_wp2_with (fail)
              refine CR.mono ?_
              rintro y w3 ⟨rfl, b3⟩
              have hX := hms2 b3
              have hb3 := below_on hbw2 b3
              clear CR b3 hbw2 hms2 hen
              go_wp2_with (fail)
              go_roundw
              case rel => exact ⟨_, cnt2, hX.1, hX.2, hsn2, hb3⟩
              case measure => rw [hX.1.left_eq, hcnt]; exact hlt2
            · rw [rwB_false hq] at CR
              have hr : R = false := by
                cases e : R with
                | false => rfl
                | true => exact absurd (hrow.out.1 e s) hq
              subst hr
              clear hq hat hkey hlk hg2 hs2 hrg hRw hseen hro hne hrow hrg2 hRw2 hsay hsn2 hms2 hcnt
              go_wp2_with (fail)
              refine CR.mono ?_
              rintro y w3 ⟨rfl, b3⟩
              have hb3 := below_on hbw2 b3
              clear CR b3 hbw2 hen
              go_wp2_with (fail)
              go_ret
              exact ⟨rfl, hb3⟩
  · have hr : R = false := by rw [hR]; exact qB_false fun q => h10 (by have := q.1; omega)
    subst hr
    clear hR
    go_enter Try.func23, Try.ntmps23
    go_wp2_with (fail)
    go_ret
    exact ⟨rfl, Below.refl _ _⟩

end Go.Proofs.Ytkdbcplcpcdnbaa

namespace Go.Proofs.Ytkdbcplcpcdnbaa
open Go.RowKit
set_option maxRecDepth 100000

theorem filter_or {α : Type} (p q : α → Bool) (h : ∀ x, p x = true → q x = true → False) : ∀ l : List α, (l.filter p ++ l.filter q).Perm (l.filter fun x => p x || q x)
  | [] => by simp
  | x :: r => by
    have ih := filter_or p q h r
    cases hp : p x
    · cases hq : q x
      · simpa [hp, hq] using ih
      · simp only [List.filter_cons, hp, hq, Bool.false_eq_true, if_false, if_true, Bool.false_or]
        exact List.perm_middle.trans (ih.cons _)
    · have hq : q x = false := by rw [Bool.eq_false_iff]; exact fun k => h x hp k
      simp only [List.filter_cons, hp, hq, Bool.false_eq_true, if_false, if_true, Bool.true_or, List.cons_append]
      exact ih.cons _
theorem rows_perm (L : List PIt) : ∀ ks : List ByteArray, ks.Nodup → (ks.flatMap fun s => ofR s L).Perm (L.filter fun z => ks.any fun s => decide (z.x.s = s))
  | [], _ => by simp
  | s :: ks, h => by
    obtain ⟨h1, h2⟩ := List.nodup_cons.1 h
    rw [List.flatMap_cons]
    refine ((rows_perm L ks h2).append_left _).trans ?_
    have := filter_or (fun z : PIt => decide (z.x.s = s)) (fun z => ks.any fun s => decide (z.x.s = s)) (fun z a b => by simp only [decide_eq_true_eq, List.any_eq_true] at a b; obtain ⟨y, hy, e⟩ := b; rw [a] at e; exact h1 (e ▸ hy)) L
    exact this
theorem rows_len (L : List PIt) (ks : List ByteArray) (h : ks.Nodup) : (ks.flatMap fun s => ofR s L).length ≤ L.length := by
  rw [(rows_perm L ks h).length_eq]; exact List.length_filter_le _ _

theorem sortAll_any (p : Option Addr) (n c : Nat) (d L : List PIt) (w : World) (lo : Nat) (h : w.ownsRow lo 102 5 (.slice p n c) n (flatP d)) (hl : d.length = n) (hn : n ≤ 1048577) (hp : d.Perm L) (hs : L.Pairwise (fun a b => a.k < b.k)) :
    Calls Try.prog 79 #[.slice p n c, .func (.func 80) #[] #[]] w fun e w' => e = .returned (.tuple #[]) ∧ PlIn w' p n c L ∧ w.grownBy w' (Value.slice p n c).ownBlock := by
  rcases Nat.eq_zero_or_pos n with h0 | h0
  · subst h0
    have hcon := AnyF.slices_SortFunc_none sortP p c (.func (.func 80) #[] #[]) w
    refine (show Calls Try.prog 79 _ w _ from hcon).mono ?_
    rintro e w' ⟨rfl, rfl⟩
    exact ⟨rfl, ⟨(plIn_own h hl).1, (plIn_own h hl).2.1, fun k => absurd k (Nat.lt_irrefl 0)⟩, World.grownBy_refl' _ _⟩
  · rcases h.2 with ⟨_, k⟩ | ⟨g, cap, cur, hv, _⟩
    · omega
    · simp only [Value.slice.injEq] at hv
      obtain ⟨rfl, _, rfl⟩ := hv
      exact sort_any g c n d L w lo h hl hn hp hs

/-- The map m in block B, and its rows, that are only read. -/
structure Rows13W (w : World) (B n : Nat) (m : ByteArray → Option Value) (L : List PIt) : Prop where
  map : MapW w B n m
  noRow : ∀ s, ofR s L = [] → m s = none
  aRow : ∀ s, ofR s L ≠ [] → ∃ b o c, m s = some (.slice (some ⟨b, o, none⟩) (ofR s L).length c) ∧ PlIn w (some ⟨b, o, none⟩) (ofR s L).length c (ofR s L)
theorem Rows13.weak {w : World} {lo S B n : Nat} {m : ByteArray → Option Value} {L : List PIt} (h : Rows13 w lo S B n m L) : Rows13W w B n m L := by
  refine ⟨h.map, h.noRow, fun s hs => ?_⟩
  obtain ⟨v, hv, ho⟩ := h.aRow s hs
  rcases ho.2 with ⟨_, h0⟩ | ⟨g, cap, cur, rfl, _⟩
  · exact absurd (List.length_eq_zero_iff.1 h0) hs
  · exact ⟨g, 0, cap, hv, plIn_own ho rfl⟩
theorem Rows13W.on {w w' : World} {B n : Nat} {m : ByteArray → Option Value} {L : List PIt} (h : Rows13W w B n m L) (b : Below w.heap.size w w') : Rows13W w' B n m L :=
  ⟨h.map.on b, h.noRow, fun s hs => by obtain ⟨b', o, c, hv, hP⟩ := h.aRow s hs; exact ⟨b', o, c, hv, plIn_on hP b⟩⟩
theorem plIn_news {w : World} {b o n c : Nat} {l : List PIt} (h : PlIn w (some ⟨b, o, none⟩) n c l) (hl : l.length = n) : ∀ j u, (flatP l)[j]? = some u → w.cell? ((⟨b, o, none⟩ : Addr).add j) = some u := by
  intro j u hj
  have hlt : j < l.length * 5 := by rw [← flatP_length]; exact (List.getElem?_eq_some_iff.1 hj).1
  obtain ⟨b', o', e, hc⟩ := h.2.2 (by omega)
  simp only [Option.some.injEq, Addr.mk.injEq, and_true] at e
  obtain ⟨rfl, rfl⟩ := e
  have e2 := flatP_at l (j / 5) (j % 5) (Nat.mod_lt _ (by decide)) (by omega)
  rw [show j / 5 * 5 + j % 5 = j by omega, hj] at e2
  have := hc (j / 5) (j % 5) u (by omega) e2.symm
  rw [Addr.add_lit]
  rw [show b = b from rfl, show o + j / 5 * 5 + j % 5 = o + j by omega] at this
  exact this

set_option maxHeartbeats 8000000 in
theorem told_any (w : World) (S B nn : Nat) (m : ByteArray → Option Value) (L : List PIt) (hL : L.length ≤ 1048577) (hinc : L.Pairwise (fun a b => a.k < b.k)) (l0 : w.cell? ⟨S, 0, none⟩ = some (.map (some B))) (hR : Rows13W w B nn m L) :
    Calls Try.prog 45 #[.pointer (some ⟨S, 0, none⟩)] w fun e w' => ∃ g, e = .returned (.slice (some ⟨g, 0, none⟩) L.length L.length) ∧ w'.ownsRow w.heap.size 26 4 (.slice (some ⟨g, 0, none⟩) L.length L.length) L.length (flatI (L.map PIt.x)) ∧ Below w.heap.size w w' := by
  obtain ⟨i0, hi, hz0, hz1, hz2⟩ := info_parts infoPlaced
  obtain ⟨D, hown, hsay⟩ := hR.map
  go_enter Try.func45, Try.ntmps45
  go_wp2_with (first
    | (at_range; refine wpList_range_own _ rfl _ 73 rfl 9 76 keyedS Try.underlying73 _ B nn _ rfl hown ?_; intro w0 hrg0 hg0 hs0)
    | go_in)
  go_frame
  obtain ⟨r, hr0⟩ : ∃ r, r = w.heap.size := ⟨_, rfl⟩
  rw [← hr0] at hrg0 ⊢
  replace hr0 : Hid (r = w.heap.size) := hr0
  have hb0 : Below w.heap.size w w0 := (Below.refl _ _).grown hg0 (Nat.le_refl _) (fun _ h => by cases h)
  have hst : Hid (∀ s, m s ≠ none → (Maps.has D (kl s) = false ↔ s ∈ ([] : List ByteArray))) := fun s h1 => by
    rw [hsay.has s]
    cases e : m s with
    | none => exact absurd e h1
    | some v => simp
  have hsz0 : r < w0.heap.size := hrg0.lt
  clear l0 hown hg0 hs0
  go_loopw [3] (fun a wr => ∃ (left : Lit → Bool) (cnt : Nat) (ks : List ByteArray), wr.ranges Try.prog 9 tokR B r nn D left cnt ∧ Hid (ks.Nodup ∧ ∀ s, m s ≠ none → (left (kl s) = false ↔ s ∈ ks)) ∧ wr.ownsRow (r + 1) 102 5 a (ks.flatMap fun s => ofR s L).length (flatP (ks.flatMap fun s => ofR s L)) ∧ Below r w wr) (fun _ wr => wr.rangeLeft B r)
  case atStart => exact ⟨_, _, [], hrg0, ⟨List.nodup_nil, hst.out⟩, World.ownsRow_nil _ _ _ _, by rw [hr0.out]; exact hb0⟩
  case round =>
    clear hrg0 hst hb0 hsz0
    obtain ⟨left, cnt, ks, hrg, hks, hrow, hbw⟩ := hrel
    rw [hr0.out] at hbw
    have hsz : r < wr.heap.size := hrg.lt
    go_wp2_with (first
      | (at_next; refine wpList_next_ranges _ rfl _ rfl 9 keyedS tokR Value.string (fun v : Value => v) (fun key l hk => by obtain ⟨s, e, _⟩ := keyS_inv hk; exact ⟨s, e⟩) (fun v _ _ => ⟨v, rfl⟩) B r nn D left cnt rfl hrg ?_ ?_)
      | go_in)
    · intro _ hl0
      have hmem : ∀ z ∈ L, z.x.s ∈ ks := fun z hz => by
        have hne : ofR z.x.s L ≠ [] := fun e => by
          have : z ∈ ofR z.x.s L := List.mem_filter.2 ⟨hz, by simp⟩
          rw [e] at this; simp at this
        obtain ⟨_, _, _, hv, _⟩ := hR.aRow z.x.s hne
        exact (hks.out.2 z.x.s (by rw [hv]; simp)).1 (hl0 _)
      have hperm : (ks.flatMap fun s => ofR s L).Perm L := by
        refine (rows_perm L ks hks.out.1).trans ?_
        rw [List.filter_eq_self.2 (fun z hz => List.any_eq_true.2 ⟨z.x.s, hmem z hz, by simp⟩)]
      have hdl := hperm.length_eq
      obtain ⟨dn, hdn⟩ : ∃ dn, dn = ks.flatMap fun s => ofR s L := ⟨_, rfl⟩
      rw [← hdn] at hrow hperm hdl
      rw [hdl] at hrow
      obtain ⟨pa, ca, rfl⟩ := owns_form hrow
      have CS := sortAll_any pa L.length ca dn L wr (r + 1) hrow hdl hL hperm hinc
      have hlt : ∀ k, (Value.slice pa L.length ca).ownBlock = some k → r + 1 ≤ k := fun k hk => (hrow.lt k hk).1
      clear hdn hmem hks hrg hrow hperm hdl hsay hR
      go_wp2_with (fail)
      refine CS.mono ?_
      rintro z w3 ⟨rfl, hP3, hg3⟩
      have hb3 : Below w.heap.size w w3 := hbw.grown hg3 hbw.size (fun k hk => by have := hlt k hk; have := hr0.out; omega)
      clear CS hg3 hbw hlt hsz
      obtain ⟨n, hn⟩ : ∃ n, n = L.length := ⟨_, rfl⟩
      rw [← hn] at hP3 hL ⊢
      replace hn : Hid (n = L.length) := hn
      obtain ⟨i1, hi1, hy0, hy1, hy2⟩ := info_parts infoItem
      go_wp2_with (at_make; refine wpList_make_full _ rfl _ _ 24 rfl w3.heap.size 26 i1 _ 4 Try.underlying24 hi1 hy0 hy1 _ _ _ _ n rfl rfl rfl rfl ?b2 ?b3 ?b4 ?_)
      case b2 => rw [hy2]; omega
      case b3 => unfold maxLen; omega
      case b4 => exact Nat.le_refl _
      intro w4 hown4 hgrow4
      rw [made_items n] at hown4
      have hb4 : Below w3.heap.size w3 w4 := (Below.refl _ _).grown hgrow4 (Nat.le_refl _) (fun _ h => by cases h)
      clear hgrow4
      obtain ⟨g, hg⟩ : ∃ g, g = w3.heap.size := ⟨_, rfl⟩
      rw [← hg] at hown4 ⊢
      have hwg : w.heap.size ≤ g := by have := hb3.size; omega
      replace hg : Hid (g = w3.heap.size) := hg
      obtain ⟨xs, hxs⟩ : ∃ xs, xs = L.map PIt.x := ⟨_, rfl⟩
      have hxl : xs.length = n := by rw [hxs, List.length_map]; exact hn.out.symm
      have hxg : Hid (∀ k, k < n → (L.getD k default).x = xs.getD k default) := fun k hk => by
        have := hn.out
        rw [hxs, List.getD_eq_getElem?_getD, List.getD_eq_getElem?_getD, List.getElem?_map, List.getElem?_eq_getElem (show k < L.length by omega)]; rfl
      replace hxs : Hid (xs = L.map PIt.x) := hxs
      go_wp2_with (fail)
      go_loopw [28] (fun i wr => ∃ k : Nat, k ≤ n ∧ i = .int .i64 k ∧ wr.ownsRow g 26 4 (.slice (some ⟨g, 0, none⟩) n n) n (flatI (xs.take k ++ List.replicate (n - k) default)) ∧ Below g w3 wr) (fun i _ => n - (intOf i).toNat)
      case atStart => exact ⟨0, Nat.zero_le _, rfl, hown4, by rw [hg.out]; exact hb4⟩
      case round =>
        clear hown4 hb4
        obtain ⟨k, hk, rfl, hrow, hbel⟩ := hrel
        rw [hg.out] at hbel
        by_cases hlt : k < n
        · have hgw := (hrow.lt g rfl).2
          obtain ⟨b, o, rfl, hc⟩ := (plIn_on hP3 hbel).2.2 (by omega)
          obtain ⟨z, hz⟩ : ∃ z, L.getD k default = z := ⟨_, rfl⟩
          obtain ⟨l0, l1, l2, l3, l4⟩ := PlIn.at hc hlt hz
          have hxk := hxg.out k hlt
          rw [hz] at hxk
          have hset : (xs.take k ++ List.replicate (n - k) (default : ItA)).set k z.x = xs.take (k + 1) ++ List.replicate (n - (k + 1)) default := by
            rw [take_getD (by omega), ← hxk, List.set_append_right _ _ (by rw [List.length_take]; omega), List.length_take, Nat.min_eq_left (by omega), Nat.sub_self, show n - k = (n - (k + 1)) + 1 by omega, List.replicate_succ]
            simp
          have hll : (xs.take k ++ List.replicate (n - k) (default : ItA)).length = n := by simp; omega
          obtain ⟨pk, ⟨s, t, d, xp, xn, xc, ys⟩⟩ := z
          dsimp only at l0 l1 l2 l3 l4 hset
          obtain ⟨w5, hw5⟩ : ∃ w5, w5 = wr.alloc (.cells #[.int .i64 pk, .string s, .int .i64 t, .int .i64 d, .slice xp xn xc] 102) := ⟨_, rfl⟩
          have b5 : Below wr.heap.size wr w5 := by rw [hw5]; exact made_below _ _ (Below.refl _ _)
          have C5 : Cells w5 wr.heap.size #[.int .i64 pk, .string s, .int .i64 t, .int .i64 d, .slice xp xn xc] := by rw [hw5]; exact Cells.made _ _ _
          have m1 : w5.cell? ⟨wr.heap.size, 1, none⟩ = some (.string s) := (C5.2 1).1
          have m2 : w5.cell? ⟨wr.heap.size, 2, none⟩ = some (.int .i64 t) := (C5.2 2).1
          have m3 : w5.cell? ⟨wr.heap.size, 3, none⟩ = some (.int .i64 d) := (C5.2 3).1
          have m4 : w5.cell? ⟨wr.heap.size, 4, none⟩ = some (.slice xp xn xc) := (C5.2 4).1
          have hrow5 := owns_below hrow b5
          have hbel5 := below_on hbel b5
          replace hw5 : Hid (wr.alloc (.cells #[.int .i64 pk, .string s, .int .i64 t, .int .i64 d, .slice xp xn xc] 102) = w5) := hw5.symm
          obtain ⟨⟨u0, c0⟩, ⟨u1, c1⟩, ⟨u2, c2'⟩, ⟨u3, c3⟩, f0, f1, f2, f3⟩ := store_item ⟨s, t, d, xp, xn, xc, ys⟩ hrow5 hlt hll
          dsimp only at c0 c1 c2' c3 f0 f1 f2 f3
          have hrow6 := setItem_row (k := k) ⟨s, t, d, xp, xn, xc, ys⟩ hrow5 (by rw [hll]; exact hlt)
          rw [hset] at hrow6
          have hbel6 : Below w3.heap.size w3 (setItem w5 g k ⟨s, t, d, xp, xn, xc, ys⟩) := hbel5.grown (setItem_grown _ _ _ _) hbel5.size (fun j hj => by cases hj; exact Nat.le_of_eq hg.out.symm)
          obtain ⟨X, hX⟩ : ∃ X, X = setItem w5 g k ⟨s, t, d, xp, xn, xc, ys⟩ := ⟨_, rfl⟩
          rw [← hX] at hrow6 hbel6
          replace hX : Hid ((((w5.setCell ⟨g, k * 4, none⟩ (.string s)).setCell ⟨g, k * 4 + 1, none⟩ (.int .i64 t)).setCell ⟨g, k * 4 + 2, none⟩ (.int .i64 d)).setCell ⟨g, k * 4 + 3, none⟩ (.slice xp xn xc) = X) := hX.symm
          rw [← hg.out] at hbel6
          clear hset hc hz hxk hrow hrow5 hbel hbel5 b5 C5 hP3 hll
          go_wp2_with (first | rw [hw5.out] | rw [hX.out])
          go_roundw
          case rel => exact ⟨k + 1, by omega, by go_num, hrow6, hbel6⟩
          case measure => simp [intOf]; omega
        · have hkn : k = n := by omega
          subst hkn
          rw [Nat.sub_self, show xs.take k = xs by rw [← hxl, List.take_length]] at hrow
          have hbe : Below w.heap.size w wr := hb3.trans (hbel.mono hb3.size)
          go_wp2_with (fail)
          go_ret
          rw [← hxs.out, ← hn.out]
          exact ⟨g, rfl, owns_mono (by simpa using hrow) hwg, hbe⟩
    · intro s v kl' yd yp w2 cnt2 hkey hlk hv hat hrg2 hlt2 hg2 hs2 hen
      obtain ⟨s', e1, rfl⟩ := keyS_inv hkey
      simp only [Value.string.injEq] at e1
      subst e1
      simp only [tokR, Option.some.injEq, Prod.mk.injEq] at hv
      obtain ⟨rfl, rfl⟩ := hv
      have hms := hsay.inv hat
      have hne : ofR s L ≠ [] := fun e => by rw [hR.noRow s e] at hms; cases hms
      have hcnt : wr.rangeLeft B r = cnt := hrg.left_eq
      have hsk : s ∉ ks := fun k => by
        have := (hks.out.2 s (by rw [hms]; simp)).2 k
        rw [hlk] at this; cases this
      have hks2 : Hid ((ks ++ [s]).Nodup ∧ ∀ y, m y ≠ none → ((left (kl y) && !(kl y).sameKey (kl s)) = false ↔ y ∈ ks ++ [s])) := by
        refine ⟨by rw [List.nodup_append]; exact ⟨hks.out.1, by simp, fun a ha b hb => by simp at hb; rw [hb]; exact fun e => hsk (e ▸ ha)⟩, fun y hy => ?_⟩
        by_cases e : y = s
        · subst e
          have : (kl y).sameKey (kl y) = true := by simp [kl, Lit.sameKey]
          simp [this]
        · have : (kl y).sameKey (kl s) = false := by
            rw [Bool.eq_false_iff]
            intro k
            exact e (kl_inj (by simpa [kl, Lit.sameKey] using k))
          simp only [this, Bool.not_false, Bool.and_true, List.mem_append, List.mem_singleton, e, or_false]
          exact hks.out.2 y hy
      have hbw2 : Below w.heap.size w w2 := hbw.grown hg2 hbw.size (fun j hj => by cases hj; exact Nat.le_of_eq hr0.out.symm)
      have hsz2 : r < w2.heap.size := hrg2.lt
      obtain ⟨gs, os, cs, hv2, hro⟩ := (hR.on hbw2).aRow s hne
      rw [hms] at hv2
      simp only [Option.some.injEq] at hv2
      subst hv2
      have hrow2 := hrow.kept hg2 (.inr (fun e => by have := (hrow.lt r e).1; omega))
      have hnews := plIn_news hro rfl
      have hlen := rows_len L (ks ++ [s]) hks2.out.1
      rw [List.flatMap_append, List.flatMap_singleton, List.length_append] at hlen
      have hfl : flatP ((ks ++ [s]).flatMap fun s => ofR s L) = flatP (ks.flatMap fun s => ofR s L) ++ flatP (ofR s L) := by rw [List.flatMap_append, List.flatMap_singleton, flatP_append]
      have hfn : ((ks ++ [s]).flatMap fun s => ofR s L).length = (ks.flatMap fun s => ofR s L).length + (ofR s L).length := by rw [List.flatMap_append, List.flatMap_singleton, List.length_append]
      have hone := flatP_one (ofR s L)
      have hnl := flatP_length (ofR s L)
      have hpos : 0 < (ofR s L).length := List.length_pos_iff.2 hne
      obtain ⟨dn, hdn⟩ : ∃ dn, dn = ks.flatMap fun s => ofR s L := ⟨_, rfl⟩
      rw [← hdn] at hrow2 hlen hfl hfn
      obtain ⟨rs, hrs⟩ : ∃ rs, rs = ofR s L := ⟨_, rfl⟩
      rw [← hrs] at hro hnews hlen hfl hfn hone hnl hpos hen ⊢
      clear hdn hrs hat hkey hlk hg2 hs2 hrg hrow hks hbw hne hsk hsay hms
      go_wp2_with (first
        | (at_builtin; refine wpList_append_lies _ rfl _ _ 76 rfl (r + 1) 102 i0 _ 5 64 Try.underlying76 hi hz0 hz1 hz2 rfl (by decide) _ dn.length (flatP dn) rfl hrow2 ⟨gs, os, none⟩ rs.length cs (flatP rs) rfl hnl hnews hone hpos (by unfold maxLen; omega) (by omega) (by omega) w2.heap.size rfl ?_; intro g4 c4 w4 hr4 hg4 hl4 hgl4)
        | go_in)
      have hrB : B < r := by have := hR.map.lt; have := hr0.out; omega
      have hrg4 := hrg2.kept hg4 (fun e => by have := (hrow2.lt B e.symm).1; omega) (fun e => by have := (hrow2.lt r e.symm).1; omega)
      have hb4 : Below r w w4 := by
        rw [hr0.out]
        exact hbw2.grown hg4 hbw2.size (fun k hk => by have := (hrow2.lt k hk).1; have := hr0.out; omega)
      have hcnt4 := hrg4.left_eq
      clear hro hnews hlen hone hnl hpos hrg2 hbw2 hrow2 hg4 hl4 hgl4 hsz2 hen hR
      go_wp2_with (fail)
      go_roundw
      case rel => exact ⟨_, cnt2, ks ++ [s], hrg4, hks2, by rw [hfn, hfl]; exact hr4, hb4⟩
      case measure => rw [hcnt4, hcnt]; exact hlt2

end Go.Proofs.Ytkdbcplcpcdnbaa

namespace Go.Proofs.Ytkdbcplcpcdnbaa
open Go.RowKit
set_option maxRecDepth 100000

/-- L without its first one of a route. -/
def rmF (s : ByteArray) : List PIt → List PIt
  | [] => []
  | z :: r => if z.x.s = s then r else z :: rmF s r
theorem rmF_same (s : ByteArray) : ∀ L : List PIt, ofR s (rmF s L) = (ofR s L).tail
  | [] => rfl
  | z :: r => by
    by_cases e : z.x.s = s
    · simp [rmF, ofR, e]
    · have ih := rmF_same s r
      simp only [ofR] at ih
      simp [rmF, ofR, e, ih]
theorem rmF_other (s y : ByteArray) (h : y ≠ s) : ∀ L : List PIt, ofR y (rmF s L) = ofR y L
  | [] => rfl
  | z :: r => by
    by_cases e : z.x.s = s
    · simp [rmF, ofR, e, Ne.symm h]
    · have ih := rmF_other s y h r
      simp only [ofR] at ih
      simp [rmF, ofR, e, List.filter_cons, ih]
theorem rmF_sub (s : ByteArray) : ∀ L : List PIt, (rmF s L).Sublist L
  | [] => List.Sublist.slnil
  | z :: r => by
    by_cases e : z.x.s = s
    · simp [rmF, e]
    · simp [rmF, e, rmF_sub s r]
theorem rmF_take (s : ByteArray) : ∀ L : List PIt, ofR s L ≠ [] → takeF s (L.map PIt.x) = some (((ofR s L).getD 0 default).x, (rmF s L).map PIt.x)
  | [], h => absurd rfl h
  | z :: r, h => by
    by_cases e : z.x.s = s
    · simp [rmF, ofR, takeF, e]
    · have h' : ofR s r ≠ [] := by simpa [ofR, e] using h
      have ih := rmF_take s r h'
      simp only [ofR] at ih
      simp [rmF, ofR, takeF, e, ih]
theorem rmF_none (s : ByteArray) (L : List PIt) (h : ofR s L = []) : takeF s (L.map PIt.x) = none := by
  refine takeF_none fun x hx => ?_
  obtain ⟨z, hz, rfl⟩ := List.mem_map.1 hx
  intro e
  have : z ∈ ofR s L := List.mem_filter.2 ⟨hz, by simp [e]⟩
  rw [h] at this
  simp at this

set_option maxHeartbeats 2000000 in
theorem leave_any (w : World) (S B n : Nat) (m : ByteArray → Option Value) (s : ByteArray) (q : Option Addr) (k c : Nat) (hS : w.cell? ⟨S, 0, none⟩ = some (.map (some B))) (hm : MapW w B n m) (hs : s.size ≤ 1048576) (hn : n ≤ 16777216) (hk : k ≤ 1048577) :
    Calls Try.prog 78 #[.pointer (some ⟨S, 0, none⟩), .string s, .slice q k c] w fun e w' => e = .returned (.tuple #[]) ∧ MapW w' B (n + 1) (fun y => if y = s then (if k = 0 then none else some (.slice q k c)) else m y) ∧ w.mapTurned w' B := by
  by_cases h0 : k = 0
  · subst h0
    obtain ⟨w', hrun, hM, ht⟩ := hm.drop s hs 0
    have hM' : MapW w' B (n + 1) (fun y => if y = s then (if (0 : Nat) = 0 then none else some (.slice q 0 c)) else m y) := by
      obtain ⟨D, h1, h2⟩ := hM
      exact ⟨D, h1.mono (by omega), h2⟩
    clear hM hm
    go_enter Try.func78, Try.ntmps78
    go_wp2_with (fail)
    first | go_end0 | (simp only [Exit.inBlock, Exit.then]; refine bodyPost_ret (results_none rfl _ _ _) rfl ?_) | refine bodyPost_ret (results_none rfl _ _ _) rfl ?_
    exact ⟨rfl, hM', ht⟩
  · obtain ⟨w', hrun, hM, ht⟩ := hm.store s hs hn (.slice q k c)
    have h1 : ((k : Int) == 0) = false := by simp; omega
    simp only [if_neg h0]
    clear hm h0
    go_enter Try.func78, Try.ntmps78
    go_wp2_with (fail)
    first | go_end0 | (simp only [Exit.inBlock, Exit.then]; refine bodyPost_ret (results_none rfl _ _ _) rfl ?_) | refine bodyPost_ret (results_none rfl _ _ _) rfl ?_
    exact ⟨rfl, hM, ht⟩

theorem slice_rowB (b o m cc : Nat) (h : 1 ≤ m) (hc : m ≤ cc) : ∃ q, Hid (1 < m → q = some ⟨b, o + 5, none⟩) ∧ ∀ W, (Instr.slice 76 (.slice (some ⟨b, o, none⟩) m cc) (some (.int .i64 1)) none none).run Try.prog W = .ok (.slice q (m - 1) (cc - 1)) W := by
  have ht' : Try.prog.underlying 76 = some (.slice (Try.prog.elem 76)) := by simp [Program.elem, Try.underlying76]
  have he : Try.prog.elem 76 = 102 := by simp [Program.elem, Try.underlying76]
  refine ⟨if cc = 1 then some ⟨b, o, none⟩ else some ⟨b, o + 5, none⟩, fun h64 => if_neg (by omega), fun W => ?_⟩
  rw [run_slice_l W 76 _ _ _ ht' .i64 1 (by omega) (by omega), he]
  by_cases e : cc = 1
  · simp [sliced, e]
  · simp [sliced, Addr.add, e]

/-- A store into another variable turns nothing of a shelf. -/
theorem rows_keptLow {w w' : World} {B n R : Nat} {m : ByteArray → Option Value} {L : List PIt} (h : Rows13W w B n m L) (hg : w.grownBy w' (some R)) (hB : B ≠ R) (hrow : ∀ s, ofR s L ≠ [] → ∀ b o c, m s = some (.slice (some ⟨b, o, none⟩) (ofR s L).length c) → b ≠ R) : Rows13W w' B n m L := by
  refine ⟨h.map.kept hg (fun k => hB (by cases k; rfl)), h.noRow, fun s hs => ?_⟩
  obtain ⟨b, o, c, hv, hP⟩ := h.aRow s hs
  refine ⟨b, o, c, hv, hP.1, hP.2.1, fun hk => ?_⟩
  obtain ⟨b', o', e, hc⟩ := hP.2.2 hk
  refine ⟨b', o', e, fun i j v hi hvv => ?_⟩
  have ec := hc i j v hi hvv
  simp only [Option.some.injEq, Addr.mk.injEq, and_true] at e
  obtain ⟨rfl, rfl⟩ := e
  rw [World.cell?_of_block (w := w) (hg.block b (World.block_lt_of_cell? w _ ec) (fun k => hrow s hs b o c hv (by cases k; rfl)))]
  exact ec

set_option maxHeartbeats 4000000 in
theorem take_any (w : World) (lo S : Nat) (L : List PIt) (nx : Int) (N : Nat) (s : ByteArray) (hs : s.size ≤ 1048576) (hN : N ≤ 1048577) (hL : L.length ≤ 1048577) (h : Shelf w lo S L nx N) :
    Calls Try.prog 50 #[.pointer (some ⟨S, 0, none⟩), .string s] w fun e w' =>
      (ofR s L = [] ∧ e = .returned (.tuple #[.agg #[.string { data := #[] }, .int .i64 0, .int .i64 0, .slice none 0 0], .bool false]) ∧ Below w.heap.size w w') ∨
      (ofR s L ≠ [] ∧ ∃ (x : ItA) (B n : Nat) (m : ByteArray → Option Value), x = ((ofR s L).getD 0 default).x ∧ e = .returned (.tuple #[.agg #[.string x.s, .int .i64 x.t, .int .i64 x.d, .slice x.p x.n x.c], .bool true]) ∧ w'.cell? ⟨S, 0, none⟩ = some (.map (some B)) ∧ Rows13W w' B n m (rmF s L) ∧ Below lo w w') := by
  obtain ⟨B, nn, m, hC, hlo, hnN, hR⟩ := h
  have hSw := hC.1
  have hSB : B ≠ S := cells_not_map hR.map hC (by simp)
  obtain ⟨w1, hw1⟩ : ∃ w1, w1 = w.alloc (.cells #[.string { data := #[] }, .int .i64 0, .int .i64 0, .slice none 0 0] 26) := ⟨_, rfl⟩
  have b1 : Below w.heap.size w w1 := by rw [hw1]; exact made_below _ _ (Below.refl _ _)
  have C1 : Cells w1 w.heap.size #[.string { data := #[] }, .int .i64 0, .int .i64 0, .slice none 0 0] := by rw [hw1]; exact Cells.made _ _ _
  have z1 : w.heap.size < w1.heap.size := C1.1
  have hR1 := hR.on b1
  have hC1 := hC.on b1
  have l0 : w1.cell? ⟨S, 0, none⟩ = some (.map (some B)) := (hC1.2 0).1
  have hlk := hR1.map.look_ok s hs
  replace hw1 : Hid (w.alloc (.cells #[.string { data := #[] }, .int .i64 0, .int .i64 0, .slice none 0 0] 26) = w1) := hw1.symm
  have hRl : lo ≤ w.heap.size := by omega
  have hBR : B < w.heap.size := hR.map.lt
  by_cases e0 : ofR s L = []
  · rw [hR.noRow s e0] at hlk
    obtain ⟨w2, hw2⟩ : ∃ w2, w2 = w1.alloc (.cells #[.string { data := #[] }, .int .i64 0, .int .i64 0, .slice none 0 0] 26) := ⟨_, rfl⟩
    have b2 : Below w1.heap.size w1 w2 := by rw [hw2]; exact made_below _ _ (Below.refl _ _)
    have C2 : Cells w2 w1.heap.size #[.string { data := #[] }, .int .i64 0, .int .i64 0, .slice none 0 0] := by rw [hw2]; exact Cells.made _ _ _
    have v0 : w2.cell? ⟨w1.heap.size, 0, none⟩ = some (.string { data := #[] }) := (C2.2 0).1
    have v1 : w2.cell? ⟨w1.heap.size, 1, none⟩ = some (.int .i64 0) := (C2.2 1).1
    have v2 : w2.cell? ⟨w1.heap.size, 2, none⟩ = some (.int .i64 0) := (C2.2 2).1
    have v3 : w2.cell? ⟨w1.heap.size, 3, none⟩ = some (.slice none 0 0) := (C2.2 3).1
    replace hw2 : Hid (w1.alloc (.cells #[.string { data := #[] }, .int .i64 0, .int .i64 0, .slice none 0 0] 26) = w2) := hw2.symm
    have k2 := below_on b1 b2
    obtain ⟨X, hX, ⟨u0, y0⟩, f0, ⟨u1, y1⟩, f1, ⟨u2, y2⟩, f2, ⟨u3, y3⟩, f3, q0, q1, q2', q3, hsz, hgX⟩ := itemStore (C1.on b2) rfl { data := #[] } 0 0 none 0 0
    have kX : Below w.heap.size w X := k2.grown hgX.out k2.size (fun j hj => by cases hj; omega)
    clear hgX hR hR1 hC hC1 b1 b2 C1 C2 k2 z1
    go_enter Try.func50, Try.ntmps50
    go_wp2_with (first | rw [hw1.out] | rw [hw2.out] | rw [hX.out])
    (try simp only [Exit.inBlock, Exit.then])
    refine bodyPost_ret (v := .tuple #[.agg #[.string { data := #[] }, .int .i64 0, .int .i64 0, .slice none 0 0], .bool false]) ?_ rfl (.inl ⟨e0, rfl, kX⟩)
    simp only [results, Try.f50]
    go_simp
  · obtain ⟨b, o, cc, hms, hP⟩ := hR.weak.aRow s e0
    have hP1 := plIn_on hP b1
    rw [hms] at hlk
    obtain ⟨z, hz⟩ : ∃ z, (ofR s L).getD 0 default = z := ⟨_, rfl⟩
    have hpos : 0 < (ofR s L).length := List.length_pos_iff.2 e0
    have hlen := ofR_len s L
    obtain ⟨b', o', hpe, hcells⟩ := hP1.2.2 hpos
    simp only [Option.some.injEq, Addr.mk.injEq, and_true] at hpe
    obtain ⟨rfl, rfl⟩ := hpe
    obtain ⟨q, hq, hsl⟩ := slice_rowB b o (ofR s L).length cc hpos hP.1
    obtain ⟨rl, hrl⟩ : ∃ rl, rl = (ofR s L).length := ⟨_, rfl⟩
    have CL := leave_any w1 S B nn m s q (rl - 1) (cc - 1) l0 hR1.map hs (by omega) (by omega)
    have hbB : b ≠ B := fun e => by
      obtain ⟨es, c, hb⟩ := hR1.map.block
      have := hcells 0 0 (.int .i64 ((ofR s L).getD 0 default).k) hpos rfl
      rw [e] at this
      simp [World.cell?, hb] at this
    have hafter : Hid (∀ w2, MapW w2 B (nn + 1) (fun y => if y = s then (if rl - 1 = 0 then none else some (.slice q (rl - 1) (cc - 1))) else m y) → w1.mapTurned w2 B → Rows13W w2 B (nn + 1) (fun y => if y = s then (if rl - 1 = 0 then none else some (.slice q (rl - 1) (cc - 1))) else m y) (rmF s L)) := fun w2 hM2 ht2 => by
      have hg := ht2.grown
      have keep : ∀ {p : Option Addr} {k c' : Nat} {l : List PIt}, PlIn w1 p k c' l → PlIn w2 p k c' l := fun {p k c' l} hh => by
        refine ⟨hh.1, hh.2.1, fun hk => ?_⟩
        obtain ⟨b2, o2, rfl, hc2⟩ := hh.2.2 hk
        refine ⟨b2, o2, rfl, fun i j v hi hv => ?_⟩
        have e := hc2 i j v hi hv
        have hne : b2 ≠ B := fun e2 => by
          obtain ⟨es, c, hb⟩ := hR1.map.block
          rw [e2] at e
          simp [World.cell?, hb] at e
        rw [World.cell?_of_block (w := w1) (hg.block b2 (World.block_lt_of_cell? w1 _ e) (fun k => hne (by cases k; rfl)))]
        exact e
      have htail : (ofR s L).tail.length = rl - 1 := by rw [List.length_tail, hrl]
      refine ⟨hM2, fun y hy => ?_, fun y hy => ?_⟩
      · by_cases ey : y = s
        · subst ey
          rw [rmF_same] at hy
          have : rl - 1 = 0 := by rw [← htail, hy]; rfl
          simp [this]
        · rw [rmF_other s y ey] at hy
          simp only [if_neg ey]
          exact hR.noRow y hy
      · by_cases ey : y = s
        · subst ey
          rw [rmF_same] at hy ⊢
          have hl1 : rl - 1 ≠ 0 := fun k => hy (List.length_eq_zero_iff.1 (htail.trans k))
          have hqe := hq.out (by omega)
          subst hqe
          refine ⟨b, o + 5, cc - 1, by simp only [if_true, if_neg hl1, htail], ?_⟩
          rw [htail]
          refine keep ⟨by have := hP.1; omega, by have := hP.2.1; omega, fun _ => ⟨b, o + 5, rfl, fun i j v hi hv => ?_⟩⟩
          have := hcells (i + 1) j v (by omega) (by rw [← hv]; congr 2; simp [List.getD_eq_getElem?_getD])
          rw [show o + 5 + i * 5 + j = o + (i + 1) * 5 + j by omega]
          exact this
        · rw [rmF_other s y ey] at hy ⊢
          obtain ⟨b2, o2, c2, h1, h2⟩ := hR.weak.aRow y hy
          exact ⟨b2, o2, c2, by simp only [if_neg ey]; exact h1, keep (plIn_on h2 b1)⟩
    have hblk : Hid (∀ y, ofR y (rmF s L) ≠ [] → ∀ b2 o2 c2, (if y = s then (if rl - 1 = 0 then none else some (.slice q (rl - 1) (cc - 1))) else m y) = some (.slice (some ⟨b2, o2, none⟩) (ofR y (rmF s L)).length c2) → b2 < w.heap.size) := fun y hy b2 o2 c2 hv => by
      by_cases ey : y = s
      · subst ey
        simp only [if_true] at hv
        by_cases h0 : rl - 1 = 0
        · rw [if_pos h0] at hv; cases hv
        · rw [if_neg h0, hq.out (by omega)] at hv
          simp only [Option.some.injEq, Value.slice.injEq, Addr.mk.injEq] at hv
          obtain ⟨b3, o3, e3, hc3⟩ := hP.2.2 hpos
          simp only [Option.some.injEq, Addr.mk.injEq] at e3
          have := World.block_lt_of_cell? w _ (hc3 0 0 _ hpos rfl)
          rw [← hv.1.1, e3.1]
          exact this
      · rw [rmF_other s y ey] at hy hv
        rw [if_neg ey] at hv
        obtain ⟨b3, o3, c3, h1, h2⟩ := hR.weak.aRow y hy
        rw [hv] at h1
        simp only [Option.some.injEq, Value.slice.injEq, Addr.mk.injEq] at h1
        have hp3 : 0 < (ofR y L).length := List.length_pos_iff.2 hy
        obtain ⟨b4, o4, e4, hc4⟩ := h2.2.2 hp3
        simp only [Option.some.injEq, Addr.mk.injEq] at e4
        have := World.block_lt_of_cell? w _ (hc4 0 0 _ hp3 rfl)
        rw [h1.1.1, e4.1]
        exact this
    obtain ⟨c0, c1, c2, c3, c4⟩ := PlIn.at hcells hpos hz
    simp only [Nat.zero_mul, Nat.add_zero] at c0 c1 c2 c3 c4
    have hkeep : Hid (∀ w2, w1.mapTurned w2 B → w2.cell? ⟨b, o + 1, none⟩ = some (.string z.x.s) ∧ w2.cell? ⟨b, o + 2, none⟩ = some (.int .i64 z.x.t) ∧ w2.cell? ⟨b, o + 3, none⟩ = some (.int .i64 z.x.d) ∧ w2.cell? ⟨b, o + 4, none⟩ = some (.slice z.x.p z.x.n z.x.c)) := fun w2 ht2 => by
      have e : ∀ i, w2.cell? ⟨b, i, none⟩ = w1.cell? ⟨b, i, none⟩ := fun i => World.cell?_of_block (w := w1) (ht2.grown.block b (World.block_lt_of_cell? w1 _ c0) (fun k => hbB (by cases k; rfl)))
      exact ⟨(e _).trans c1, (e _).trans c2, (e _).trans c3, (e _).trans c4⟩
    rw [← hrl] at hsl hlk
    have hsl1 := hsl w1
    have hrp : (0 : Int) < (rl : Int) := by omega
    have hrp' : 0 < rl := by omega
    replace hrl : Hid (rl = (ofR s L).length) := hrl
    have hx : Hid (z.x = ((ofR s L).getD 0 default).x) := by rw [Hid, hz]
    clear hP hP1 hcells hq hms hz c0 c1 c2 c3 c4 hpos hlen hsl
    go_enter Try.func50, Try.ntmps50
    go_wp2_with (rw [hw1.out])
    refine CL.mono ?_
    rintro e w2 ⟨rfl, hM2, ht2⟩
    obtain ⟨m1, m2, m3, m4⟩ := hkeep.out w2 ht2
    have hW2 := hafter.out w2 hM2 ht2
    have C2 := C1.grown ht2.grown (fun k => by simp only [Option.some.injEq] at k; omega)
    have hb2 : Below lo w w2 := (b1.mono hRl).grown ht2.grown (by omega) (fun j hj => by cases hj; exact hR.loB)
    have l2 : w2.cell? ⟨S, 0, none⟩ = some (.map (some B)) := by
      rw [World.cell?_of_block (w := w1) (ht2.grown.block S (by omega) (fun k => hSB (by cases k; rfl)))]
      exact l0
    obtain ⟨X, hX, ⟨u0, y0⟩, f0, ⟨u1, y1⟩, f1, ⟨u2, y2⟩, f2, ⟨u3, y3⟩, f3, q0, q1, q2', q3, hsz, hgX⟩ := itemStore C2 rfl z.x.s z.x.t z.x.d z.x.p z.x.n z.x.c
    have hWX : Rows13W X B (nn + 1) _ (rmF s L) := rows_keptLow hW2 hgX.out (fun k => by omega) (fun y hy b2 o2 c2 hv => by have := hblk.out y hy b2 o2 c2 hv; omega)
    have kX : Below lo w X := hb2.grown hgX.out (Nat.le_trans hRl hb2.size) (fun j hj => by cases hj; exact hRl)
    have lX : X.cell? ⟨S, 0, none⟩ = some (.map (some B)) := by
      rw [World.cell?_of_block (w := w2) (hgX.out.block S (World.block_lt_of_cell? w2 _ l2) (fun k => by simp only [Option.some.injEq] at k; omega))]
      exact l2
    clear hgX hW2 hM2 ht2 C2 C1 hR hR1 hC hC1 CL hafter hkeep
    go_wp2_with (first | rw [hX.out])
    (try simp only [Exit.inBlock, Exit.then])
    refine bodyPost_ret (v := .tuple #[.agg #[.string z.x.s, .int .i64 z.x.t, .int .i64 z.x.d, .slice z.x.p z.x.n z.x.c], .bool true]) ?_ rfl (.inr ⟨e0, z.x, B, nn + 1, _, hx.out, rfl, lX, hWX, kX⟩)
    simp only [results, Try.f50]
    go_simp

end Go.Proofs.Ytkdbcplcpcdnbaa

namespace Go.Proofs.Ytkdbcplcpcdnbaa
open Go.RowKit
set_option maxRecDepth 100000

theorem owns_setCells {lo e size g n cap : Nat} : ∀ (vs : List Value) (i : Nat) (w : World) (xs : List Value), w.ownsRow lo e size (.slice (some ⟨g, 0, none⟩) n cap) n xs →
    ∃ xs', (w.setCells g i vs).ownsRow lo e size (.slice (some ⟨g, 0, none⟩) n cap) n xs' ∧ xs'.take i = xs.take i ∧ w.grownBy (w.setCells g i vs) (some g)
  | [], i, w, xs, h => ⟨xs, h, rfl, World.grownBy.refl _ _⟩
  | v :: r, i, w, xs, h => by
    obtain ⟨xs', h', e', g'⟩ := owns_setCells r (i + 1) _ _ (h.stored i v).1
    refine ⟨xs', h', ?_, (set_grown w g i v).trans g'⟩
    have := congrArg (List.take i) e'
    rw [List.take_take, List.take_take, Nat.min_eq_left (by omega)] at this
    rw [this]
    exact List.take_set_of_le (Nat.le_refl _)
theorem owns_cut {w : World} {lo e size g n cap k : Nat} {xs : List Value} (h : w.ownsRow lo e size (.slice (some ⟨g, 0, none⟩) n cap) n xs) (hk : k ≤ n) : w.ownsRow lo e size (.slice (some ⟨g, 0, none⟩) k cap) k (xs.take (k * size)) := by
  have hm : k * size ≤ n * size := Nat.mul_le_mul_right _ hk
  refine ⟨by rw [List.length_take, h.1]; omega, ?_⟩
  rcases h.2 with ⟨hv, h0⟩ | ⟨g', cap', cur, hv, hb, hg, hnc, hcm, hcs, ht⟩
  · simp at hv
  · simp only [Value.slice.injEq, Option.some.injEq, Addr.mk.injEq, and_true, true_and] at hv
    obtain ⟨rfl, rfl⟩ := hv
    refine .inr ⟨g, cap, cur, rfl, hb, hg, by omega, hcm, hcs, ?_⟩
    rw [← ht, List.take_take]
    congr 1
    omega
theorem flatP_take (l : List PIt) (k : Nat) : (flatP l).take (k * 5) = flatP (l.take k) := by
  induction l generalizing k with
  | nil => simp [flatP]
  | cons x r ih =>
    cases k with
    | zero => simp [flatP]
    | succ k =>
      rw [List.take_succ_cons, flatP_cons, flatP_cons, List.take_append, PIt.vals_length, List.take_of_length_le (by rw [PIt.vals_length]; omega), show (k + 1) * 5 - 5 = k * 5 by omega, ih]

theorem flatP_set5 (l : List PIt) (k : Nat) (z : PIt) (h : k < l.length) :
    (((((flatP l).set (k * 5) (.int .i64 z.k)).set (k * 5 + 1) (.string z.x.s)).set (k * 5 + 2) (.int .i64 z.x.t)).set (k * 5 + 3) (.int .i64 z.x.d)).set (k * 5 + 4) (.slice z.x.p z.x.n z.x.c) = flatP (l.set k z) := by
  induction l generalizing k with
  | nil => simp at h
  | cons x r ih =>
    cases k with
    | zero => simp [flatP_cons, PIt.vals, ItA.vals]
    | succ k =>
      have e := ih k (by simpa using h)
      rw [List.set_cons_succ, flatP_cons, flatP_cons, ← e]
      have f : ∀ (m : List Value) (j : Nat) (v : Value), (x.vals ++ m).set ((k + 1) * 5 + j) v = x.vals ++ m.set (k * 5 + j) v := fun m j v => by
        rw [List.set_append_right _ _ (by rw [PIt.vals_length]; omega), PIt.vals_length]
        congr 2
        omega
      have f0 : ∀ (m : List Value) (v : Value), (x.vals ++ m).set ((k + 1) * 5) v = x.vals ++ m.set (k * 5) v := fun m v => f m 0 v
      rw [f0, f, f, f, f]

/-- An element of a row is written over. -/
theorem store_pl {w : World} {lo g n cap k : Nat} {l : List PIt} (z : PIt) (h : w.ownsRow lo 102 5 (.slice (some ⟨g, 0, none⟩) n cap) n (flatP l)) (hk : k < n) (hl : l.length = n) :
    ∃ X, Hid (((((w.setCell ⟨g, k * 5, none⟩ (.int .i64 z.k)).setCell ⟨g, k * 5 + 1, none⟩ (.string z.x.s)).setCell ⟨g, k * 5 + 2, none⟩ (.int .i64 z.x.t)).setCell ⟨g, k * 5 + 3, none⟩ (.int .i64 z.x.d)).setCell ⟨g, k * 5 + 4, none⟩ (.slice z.x.p z.x.n z.x.c) = X) ∧
    X.ownsRow lo 102 5 (.slice (some ⟨g, 0, none⟩) n cap) n (flatP (l.set k z)) ∧ w.grownBy X (some g) ∧
    (∃ u, w.cell? ⟨g, k * 5, none⟩ = some u) ∧ (∃ u, (w.setCell ⟨g, k * 5, none⟩ (.int .i64 z.k)).cell? ⟨g, k * 5 + 1, none⟩ = some u) ∧
    (∃ u, ((w.setCell ⟨g, k * 5, none⟩ (.int .i64 z.k)).setCell ⟨g, k * 5 + 1, none⟩ (.string z.x.s)).cell? ⟨g, k * 5 + 2, none⟩ = some u) ∧
    (∃ u, (((w.setCell ⟨g, k * 5, none⟩ (.int .i64 z.k)).setCell ⟨g, k * 5 + 1, none⟩ (.string z.x.s)).setCell ⟨g, k * 5 + 2, none⟩ (.int .i64 z.x.t)).cell? ⟨g, k * 5 + 3, none⟩ = some u) ∧
    (∃ u, ((((w.setCell ⟨g, k * 5, none⟩ (.int .i64 z.k)).setCell ⟨g, k * 5 + 1, none⟩ (.string z.x.s)).setCell ⟨g, k * 5 + 2, none⟩ (.int .i64 z.x.t)).setCell ⟨g, k * 5 + 3, none⟩ (.int .i64 z.x.d)).cell? ⟨g, k * 5 + 4, none⟩ = some u) ∧
    w.frozen? ⟨g, k * 5, none⟩ = false ∧ (w.setCell ⟨g, k * 5, none⟩ (.int .i64 z.k)).frozen? ⟨g, k * 5 + 1, none⟩ = false ∧
    ((w.setCell ⟨g, k * 5, none⟩ (.int .i64 z.k)).setCell ⟨g, k * 5 + 1, none⟩ (.string z.x.s)).frozen? ⟨g, k * 5 + 2, none⟩ = false ∧
    (((w.setCell ⟨g, k * 5, none⟩ (.int .i64 z.k)).setCell ⟨g, k * 5 + 1, none⟩ (.string z.x.s)).setCell ⟨g, k * 5 + 2, none⟩ (.int .i64 z.x.t)).frozen? ⟨g, k * 5 + 3, none⟩ = false ∧
    ((((w.setCell ⟨g, k * 5, none⟩ (.int .i64 z.k)).setCell ⟨g, k * 5 + 1, none⟩ (.string z.x.s)).setCell ⟨g, k * 5 + 2, none⟩ (.int .i64 z.x.t)).setCell ⟨g, k * 5 + 3, none⟩ (.int .i64 z.x.d)).frozen? ⟨g, k * 5 + 4, none⟩ = false := by
  have h1 := (h.stored (k * 5) (.int .i64 z.k)).1
  have h2 := (h1.stored (k * 5 + 1) (.string z.x.s)).1
  have h3 := (h2.stored (k * 5 + 2) (.int .i64 z.x.t)).1
  have h4 := (h3.stored (k * 5 + 3) (.int .i64 z.x.d)).1
  have h5 := (h4.stored (k * 5 + 4) (.slice z.x.p z.x.n z.x.c)).1
  rw [flatP_set5 l k z (by omega)] at h5
  have some_of : ∀ {l : List Value} {i : Nat}, i < l.length → ∃ u, l[i]? = some u := fun hi => ⟨_, List.getElem?_eq_getElem hi⟩
  have hf := flatP_length l
  refine ⟨_, rfl, h5, ((((set_grown _ g _ _).trans (set_grown _ g _ _)).trans (set_grown _ g _ _)).trans (set_grown _ g _ _)).trans (set_grown _ g _ _), ?_, ?_, ?_, ?_, ?_, h.frozenAt _, h1.frozenAt _, h2.frozenAt _, h3.frozenAt _, h4.frozenAt _⟩
  · rw [h.cellAt _ (by omega)]; exact some_of (by omega)
  · rw [h1.cellAt _ (by omega)]; exact some_of (by simp only [List.length_set]; omega)
  · rw [h2.cellAt _ (by omega)]; exact some_of (by simp only [List.length_set]; omega)
  · rw [h3.cellAt _ (by omega)]; exact some_of (by simp only [List.length_set]; omega)
  · rw [h4.cellAt _ (by omega)]; exact some_of (by simp only [List.length_set]; omega)

/-- row[i:]. -/
theorem slice_rowL (b m cc l : Nat) (h : l < m) (hc : m ≤ cc) : ∀ W, (Instr.slice 76 (.slice (some ⟨b, 0, none⟩) m cc) (some (.int .i64 (l : Int))) none none).run Try.prog W = .ok (.slice (some ⟨b, l * 5, none⟩) (m - l) (cc - l)) W := by
  have ht' : Try.prog.underlying 76 = some (.slice (Try.prog.elem 76)) := by simp [Program.elem, Try.underlying76]
  have he : Try.prog.elem 76 = 102 := by simp [Program.elem, Try.underlying76]
  intro W
  rw [run_slice_l W 76 _ _ _ ht' .i64 l (by omega) (by omega), he]
  have e : cc ≠ l := by omega
  rcases Nat.eq_zero_or_pos l with h0 | h0
  · subst h0
    simp [sliced, Addr.add]
  · simp [sliced, Addr.add, e]
    omega
/-- clear(row[k:]). -/
theorem clear_row {W : World} {lo g n c k : Nat} {l : List PIt} (h : W.ownsRow lo 102 5 (.slice (some ⟨g, 0, none⟩) n c) n (flatP l)) (hk : k < n) (hl : l.length = n) :
    ∃ X, (∀ ty, (Builtin.clear_ #[76] ty #[.slice (some ⟨g, k * 5, none⟩) (n - k) (c - k)]).run Try.prog W = .ok (.tuple #[]) X) ∧ X.ownsRow lo 102 5 (.slice (some ⟨g, 0, none⟩) k c) k (flatP (l.take k)) ∧ W.grownBy X (some g) := by
  obtain ⟨Z, hZ⟩ : ∃ Z : Value, Z = .agg #[.int .i64 0, .string { data := #[] }, .int .i64 0, .int .i64 0, .slice none 0 0] := ⟨_, rfl⟩
  have hv : ∀ w, (zeroValue 102).run Try.prog w = .ok Z w := fun w => by rw [hZ]; kernel_rfl
  have hzs : Z.cells.size = 5 := by rw [hZ]; rfl
  have h1 : ∀ v ∈ (Builtin.zeroCells Z.cells (n - k)).toList, v.oneCell' = true := by
    intro v hv
    simp only [Builtin.zeroCells, Array.toList_map, List.mem_map, hzs] at hv
    obtain ⟨i, _, rfl⟩ := hv
    have : i % 5 < 5 := Nat.mod_lt _ (by decide)
    rw [hZ]
    generalize i % 5 = j at this
    match j, this with
    | 0, _ => rfl
    | 1, _ => rfl
    | 2, _ => rfl
    | 3, _ => rfl
    | 4, _ => rfl
  have hlen : (Builtin.zeroCells Z.cells (n - k)).toList.length = (n - k) * 5 := by simp [Builtin.zeroCells, hzs]
  obtain ⟨xs', hX, ht, hg⟩ := owns_setCells (Builtin.zeroCells Z.cells (n - k)).toList (k * 5) W _ h
  refine ⟨W.setCells g (k * 5) (Builtin.zeroCells Z.cells (n - k)).toList, fun ty => ?_, ?_, hg⟩
  · have hst := run_storeCells_cells (P := Try.prog) g (k * 5) (Builtin.zeroCells Z.cells (n - k)).toList 0 W
      (by
        intro j hj
        rw [hlen] at hj
        rw [h.cellAt _ (by omega), List.getElem?_eq_getElem (by rw [flatP_length]; omega)]
        rfl) (fun j _ => h.frozenAt _) h1
    simp only [Nat.add_zero] at hst
    obtain ⟨m, hm⟩ : ∃ m, n - k = m + 1 := ⟨n - k - 1, by omega⟩
    rw [hm] at hst ⊢
    simp [Builtin.clear_, run_underlying Try.underlying76, hv, hst]
  · have := owns_cut hX (Nat.le_of_lt hk)
    rw [ht, flatP_take] at this
    exact this

end Go.Proofs.Ytkdbcplcpcdnbaa
