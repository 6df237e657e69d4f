/-
  (*shelf).told: all that waits, in the order in which it came. Conditions: a shelf of no more than a law hands over, places that rise.
-/
import Derived.Test.YtggbmpgpopenoaaToldSort
import Derived.Test.YtggbmpgpopenoaaImplQueueOk
namespace Go.Proofs.Ytggbmpgpopenoaa
open Go.RowKit
set_option maxRecDepth 100000

theorem filter_or {α : Type} (p q : α → Bool) (h : ∀ x, p x = true → q x = true → False) : ∀ l : List α, (l.filter p ++ l.filter q).Perm (l.filter fun x => p x || q x)
  | [] => by simp
  | x :: r => by
    have ih := filter_or p q h r
    cases hp : p x
    · cases hq : q x
      · simpa [hp, hq] using ih
      · simp only [List.filter_cons, hp, hq, Bool.false_eq_true, if_false, if_true, Bool.false_or]
        exact List.perm_middle.trans (ih.cons _)
    · have hq : q x = false := by rw [Bool.eq_false_iff]; exact fun k => h x hp k
      simp only [List.filter_cons, hp, hq, Bool.false_eq_true, if_false, if_true, Bool.true_or, List.cons_append]
      exact ih.cons _
theorem rows_perm (L : List PIt) : ∀ ks : List ByteArray, ks.Nodup → (ks.flatMap fun s => ofR s L).Perm (L.filter fun z => ks.any fun s => decide (z.x.s = s))
  | [], _ => by simp
  | s :: ks, h => by
    obtain ⟨h1, h2⟩ := List.nodup_cons.1 h
    rw [List.flatMap_cons]
    refine ((rows_perm L ks h2).append_left _).trans ?_
    have := filter_or (fun z : PIt => decide (z.x.s = s)) (fun z => ks.any fun s => decide (z.x.s = s)) (fun z a b => by simp only [decide_eq_true_eq, List.any_eq_true] at a b; obtain ⟨y, hy, e⟩ := b; rw [a] at e; exact h1 (e ▸ hy)) L
    exact this
theorem rows_len (L : List PIt) (ks : List ByteArray) (h : ks.Nodup) : (ks.flatMap fun s => ofR s L).length ≤ L.length := by
  rw [(rows_perm L ks h).length_eq]; exact List.length_filter_le _ _

theorem sortAll_any (p : Option Addr) (n c : Nat) (d L : List PIt) (w : World) (lo : Nat) (h : w.ownsRow lo 96 5 (.slice p n c) n (flatP d)) (hl : d.length = n) (hn : n ≤ 1048577) (hp : d.Perm L) (hs : L.Pairwise (fun a b => a.k < b.k)) :
    Calls Try.prog 76 #[.slice p n c, .func (.func 77) #[] #[]] w fun e w' => e = .returned (.tuple #[]) ∧ PlIn w' p n c L ∧ w.grownBy w' (Value.slice p n c).ownBlock := by
  rcases Nat.eq_zero_or_pos n with h0 | h0
  · subst h0
    have hcon := AnyF.slices_SortFunc_none sortP p c (.func (.func 77) #[] #[]) w
    refine (show Calls Try.prog 76 _ w _ from hcon).mono ?_
    rintro e w' ⟨rfl, rfl⟩
    exact ⟨rfl, ⟨(plIn_own h hl).1, (plIn_own h hl).2.1, fun k => absurd k (Nat.lt_irrefl 0)⟩, World.grownBy_refl' _ _⟩
  · rcases h.2 with ⟨_, k⟩ | ⟨g, cap, cur, hv, _⟩
    · omega
    · simp only [Value.slice.injEq] at hv
      obtain ⟨rfl, _, rfl⟩ := hv
      exact sort_any g c n d L w lo h hl hn hp hs

/-- The map m in block B, and its rows, that are only read. -/
structure Rows13W (w : World) (B n : Nat) (m : ByteArray → Option Value) (L : List PIt) : Prop where
  map : MapW w B n m
  noRow : ∀ s, ofR s L = [] → m s = none
  aRow : ∀ s, ofR s L ≠ [] → ∃ b o c, m s = some (.slice (some ⟨b, o, none⟩) (ofR s L).length c) ∧ PlIn w (some ⟨b, o, none⟩) (ofR s L).length c (ofR s L)
theorem Rows13.weak {w : World} {lo S B n : Nat} {m : ByteArray → Option Value} {L : List PIt} (h : Rows13 w lo S B n m L) : Rows13W w B n m L := by
  refine ⟨h.map, h.noRow, fun s hs => ?_⟩
  obtain ⟨v, hv, ho⟩ := h.aRow s hs
  rcases ho.2 with ⟨_, h0⟩ | ⟨g, cap, cur, rfl, _⟩
  · exact absurd (List.length_eq_zero_iff.1 h0) hs
  · exact ⟨g, 0, cap, hv, plIn_own ho rfl⟩
theorem Rows13W.on {w w' : World} {B n : Nat} {m : ByteArray → Option Value} {L : List PIt} (h : Rows13W w B n m L) (b : Below w.heap.size w w') : Rows13W w' B n m L :=
  ⟨h.map.on b, h.noRow, fun s hs => by obtain ⟨b', o, c, hv, hP⟩ := h.aRow s hs; exact ⟨b', o, c, hv, plIn_on hP b⟩⟩
theorem plIn_news {w : World} {b o n c : Nat} {l : List PIt} (h : PlIn w (some ⟨b, o, none⟩) n c l) (hl : l.length = n) : ∀ j u, (flatP l)[j]? = some u → w.cell? ((⟨b, o, none⟩ : Addr).add j) = some u := by
  intro j u hj
  have hlt : j < l.length * 5 := by rw [← flatP_length]; exact (List.getElem?_eq_some_iff.1 hj).1
  obtain ⟨b', o', e, hc⟩ := h.2.2 (by omega)
  simp only [Option.some.injEq, Addr.mk.injEq, and_true] at e
  obtain ⟨rfl, rfl⟩ := e
  have e2 := flatP_at l (j / 5) (j % 5) (Nat.mod_lt _ (by decide)) (by omega)
  rw [show j / 5 * 5 + j % 5 = j by omega, hj] at e2
  have := hc (j / 5) (j % 5) u (by omega) e2.symm
  rw [Addr.add_lit]
  rw [show b = b from rfl, show o + j / 5 * 5 + j % 5 = o + j by omega] at this
  exact this

set_option maxHeartbeats 8000000 in
theorem told_any (w : World) (S B nn : Nat) (m : ByteArray → Option Value) (L : List PIt) (hL : L.length ≤ 1048577) (hinc : L.Pairwise (fun a b => a.k < b.k)) (l0 : w.cell? ⟨S, 0, none⟩ = some (.map (some B))) (hR : Rows13W w B nn m L) :
    Calls Try.prog 47 #[.pointer (some ⟨S, 0, none⟩)] w fun e w' => ∃ g, e = .returned (.slice (some ⟨g, 0, none⟩) L.length L.length) ∧ w'.ownsRow w.heap.size 26 4 (.slice (some ⟨g, 0, none⟩) L.length L.length) L.length (flatI (L.map PIt.x)) ∧ Below w.heap.size w w' := by
  obtain ⟨i0, hi, hz0, hz1, hz2⟩ := info_parts infoPlaced
  obtain ⟨D, hown, hsay⟩ := hR.map
  go_enter Try.func47, Try.ntmps47
  go_wp2_with (first
    | (at_range; refine wpList_range_own _ rfl _ 74 rfl 9 77 keyedS Try.underlying74 _ B nn _ rfl hown ?_; intro w0 hrg0 hg0 hs0)
    | go_in)
  go_frame
  obtain ⟨r, hr0⟩ : ∃ r, r = w.heap.size := ⟨_, rfl⟩
  rw [← hr0] at hrg0 ⊢
  replace hr0 : Hid (r = w.heap.size) := hr0
  have hb0 : Below w.heap.size w w0 := (Below.refl _ _).grown hg0 (Nat.le_refl _) (fun _ h => by cases h)
  have hst : Hid (∀ s, m s ≠ none → (Maps.has D (kl s) = false ↔ s ∈ ([] : List ByteArray))) := fun s h1 => by
    rw [hsay.has s]
    cases e : m s with
    | none => exact absurd e h1
    | some v => simp
  have hsz0 : r < w0.heap.size := hrg0.lt
  clear l0 hown hg0 hs0
  go_loopw [3] (fun a wr => ∃ (left : Lit → Bool) (cnt : Nat) (ks : List ByteArray), wr.ranges Try.prog 9 tokR B r nn D left cnt ∧ Hid (ks.Nodup ∧ ∀ s, m s ≠ none → (left (kl s) = false ↔ s ∈ ks)) ∧ wr.ownsRow (r + 1) 96 5 a (ks.flatMap fun s => ofR s L).length (flatP (ks.flatMap fun s => ofR s L)) ∧ Below r w wr) (fun _ wr => wr.rangeLeft B r)
  case atStart => exact ⟨_, _, [], hrg0, ⟨List.nodup_nil, hst.out⟩, World.ownsRow_nil _ _ _ _, by rw [hr0.out]; exact hb0⟩
  case round =>
    clear hrg0 hst hb0 hsz0
    obtain ⟨left, cnt, ks, hrg, hks, hrow, hbw⟩ := hrel
    rw [hr0.out] at hbw
    have hsz : r < wr.heap.size := hrg.lt
    go_wp2_with (first
      | (at_next; refine wpList_next_ranges _ rfl _ rfl 9 keyedS tokR Value.string (fun v : Value => v) (fun key l hk => by obtain ⟨s, e, _⟩ := keyS_inv hk; exact ⟨s, e⟩) (fun v _ _ => ⟨v, rfl⟩) B r nn D left cnt rfl hrg ?_ ?_)
      | go_in)
    · intro _ hl0
      have hmem : ∀ z ∈ L, z.x.s ∈ ks := fun z hz => by
        have hne : ofR z.x.s L ≠ [] := fun e => by
          have : z ∈ ofR z.x.s L := List.mem_filter.2 ⟨hz, by simp⟩
          rw [e] at this; simp at this
        obtain ⟨_, _, _, hv, _⟩ := hR.aRow z.x.s hne
        exact (hks.out.2 z.x.s (by rw [hv]; simp)).1 (hl0 _)
      have hperm : (ks.flatMap fun s => ofR s L).Perm L := by
        refine (rows_perm L ks hks.out.1).trans ?_
        rw [List.filter_eq_self.2 (fun z hz => List.any_eq_true.2 ⟨z.x.s, hmem z hz, by simp⟩)]
      have hdl := hperm.length_eq
      obtain ⟨dn, hdn⟩ : ∃ dn, dn = ks.flatMap fun s => ofR s L := ⟨_, rfl⟩
      rw [← hdn] at hrow hperm hdl
      rw [hdl] at hrow
      obtain ⟨pa, ca, rfl⟩ := owns_form hrow
      have CS := sortAll_any pa L.length ca dn L wr (r + 1) hrow hdl hL hperm hinc
      have hlt : ∀ k, (Value.slice pa L.length ca).ownBlock = some k → r + 1 ≤ k := fun k hk => (hrow.lt k hk).1
      clear hdn hmem hks hrg hrow hperm hdl hsay hR
      go_wp2_with (fail)
      refine CS.mono ?_
      rintro z w3 ⟨rfl, hP3, hg3⟩
      have hb3 : Below w.heap.size w w3 := hbw.grown hg3 hbw.size (fun k hk => by have := hlt k hk; have := hr0.out; omega)
      clear CS hg3 hbw hlt hsz
      obtain ⟨n, hn⟩ : ∃ n, n = L.length := ⟨_, rfl⟩
      rw [← hn] at hP3 hL ⊢
      replace hn : Hid (n = L.length) := hn
      obtain ⟨i1, hi1, hy0, hy1, hy2⟩ := info_parts infoItem
      go_wp2_with (at_make; refine wpList_make_full _ rfl _ _ 24 rfl w3.heap.size 26 i1 _ 4 Try.underlying24 hi1 hy0 hy1 _ _ _ _ n rfl rfl rfl rfl ?b2 ?b3 ?b4 ?_)
      case b2 => rw [hy2]; omega
      case b3 => unfold maxLen; omega
      case b4 => exact Nat.le_refl _
      intro w4 hown4 hgrow4
      rw [made_items n] at hown4
      have hb4 : Below w3.heap.size w3 w4 := (Below.refl _ _).grown hgrow4 (Nat.le_refl _) (fun _ h => by cases h)
      clear hgrow4
      obtain ⟨g, hg⟩ : ∃ g, g = w3.heap.size := ⟨_, rfl⟩
      rw [← hg] at hown4 ⊢
      have hwg : w.heap.size ≤ g := by have := hb3.size; omega
      replace hg : Hid (g = w3.heap.size) := hg
      obtain ⟨xs, hxs⟩ : ∃ xs, xs = L.map PIt.x := ⟨_, rfl⟩
      have hxl : xs.length = n := by rw [hxs, List.length_map]; exact hn.out.symm
      have hxg : Hid (∀ k, k < n → (L.getD k default).x = xs.getD k default) := fun k hk => by
        have := hn.out
        rw [hxs, List.getD_eq_getElem?_getD, List.getD_eq_getElem?_getD, List.getElem?_map, List.getElem?_eq_getElem (show k < L.length by omega)]; rfl
      replace hxs : Hid (xs = L.map PIt.x) := hxs
      go_wp2_with (fail)
      go_loopw [28] (fun i wr => ∃ k : Nat, k ≤ n ∧ i = .int .i64 k ∧ wr.ownsRow g 26 4 (.slice (some ⟨g, 0, none⟩) n n) n (flatI (xs.take k ++ List.replicate (n - k) default)) ∧ Below g w3 wr) (fun i _ => n - (intOf i).toNat)
      case atStart => exact ⟨0, Nat.zero_le _, rfl, hown4, by rw [hg.out]; exact hb4⟩
      case round =>
        clear hown4 hb4
        obtain ⟨k, hk, rfl, hrow, hbel⟩ := hrel
        rw [hg.out] at hbel
        by_cases hlt : k < n
        · have hgw := (hrow.lt g rfl).2
          obtain ⟨b, o, rfl, hc⟩ := (plIn_on hP3 hbel).2.2 (by omega)
          obtain ⟨z, hz⟩ : ∃ z, L.getD k default = z := ⟨_, rfl⟩
          obtain ⟨l0, l1, l2, l3, l4⟩ := PlIn.at hc hlt hz
          have hxk := hxg.out k hlt
          rw [hz] at hxk
          have hset : (xs.take k ++ List.replicate (n - k) (default : ItA)).set k z.x = xs.take (k + 1) ++ List.replicate (n - (k + 1)) default := by
            rw [take_getD (by omega), ← hxk, List.set_append_right _ _ (by rw [List.length_take]; omega), List.length_take, Nat.min_eq_left (by omega), Nat.sub_self, show n - k = (n - (k + 1)) + 1 by omega, List.replicate_succ]
            simp
          have hll : (xs.take k ++ List.replicate (n - k) (default : ItA)).length = n := by simp; omega
          obtain ⟨pk, ⟨s, t, d, xp, xn, xc, ys⟩⟩ := z
          dsimp only at l0 l1 l2 l3 l4 hset
          obtain ⟨w5, hw5⟩ : ∃ w5, w5 = wr.alloc (.cells #[.int .i64 pk, .string s, .int .i64 t, .int .i64 d, .slice xp xn xc] 96) := ⟨_, rfl⟩
          have b5 : Below wr.heap.size wr w5 := by rw [hw5]; exact made_below _ _ (Below.refl _ _)
          have C5 : Cells w5 wr.heap.size #[.int .i64 pk, .string s, .int .i64 t, .int .i64 d, .slice xp xn xc] := by rw [hw5]; exact Cells.made _ _ _
          have m1 : w5.cell? ⟨wr.heap.size, 1, none⟩ = some (.string s) := (C5.2 1).1
          have m2 : w5.cell? ⟨wr.heap.size, 2, none⟩ = some (.int .i64 t) := (C5.2 2).1
          have m3 : w5.cell? ⟨wr.heap.size, 3, none⟩ = some (.int .i64 d) := (C5.2 3).1
          have m4 : w5.cell? ⟨wr.heap.size, 4, none⟩ = some (.slice xp xn xc) := (C5.2 4).1
          have hrow5 := owns_below hrow b5
          have hbel5 := below_on hbel b5
          replace hw5 : Hid (wr.alloc (.cells #[.int .i64 pk, .string s, .int .i64 t, .int .i64 d, .slice xp xn xc] 96) = w5) := hw5.symm
          obtain ⟨⟨u0, c0⟩, ⟨u1, c1⟩, ⟨u2, c2'⟩, ⟨u3, c3⟩, f0, f1, f2, f3⟩ := store_item ⟨s, t, d, xp, xn, xc, ys⟩ hrow5 hlt hll
          dsimp only at c0 c1 c2' c3 f0 f1 f2 f3
          have hrow6 := setItem_row (k := k) ⟨s, t, d, xp, xn, xc, ys⟩ hrow5 (by rw [hll]; exact hlt)
          rw [hset] at hrow6
          have hbel6 : Below w3.heap.size w3 (setItem w5 g k ⟨s, t, d, xp, xn, xc, ys⟩) := hbel5.grown (setItem_grown _ _ _ _) hbel5.size (fun j hj => by cases hj; exact Nat.le_of_eq hg.out.symm)
          obtain ⟨X, hX⟩ : ∃ X, X = setItem w5 g k ⟨s, t, d, xp, xn, xc, ys⟩ := ⟨_, rfl⟩
          rw [← hX] at hrow6 hbel6
          replace hX : Hid ((((w5.setCell ⟨g, k * 4, none⟩ (.string s)).setCell ⟨g, k * 4 + 1, none⟩ (.int .i64 t)).setCell ⟨g, k * 4 + 2, none⟩ (.int .i64 d)).setCell ⟨g, k * 4 + 3, none⟩ (.slice xp xn xc) = X) := hX.symm
          rw [← hg.out] at hbel6
          clear hset hc hz hxk hrow hrow5 hbel hbel5 b5 C5 hP3 hll
          go_wp2_with (first | rw [hw5.out] | rw [hX.out])
          go_roundw
          case rel => exact ⟨k + 1, by omega, by go_num, hrow6, hbel6⟩
          case measure => simp [intOf]; omega
        · have hkn : k = n := by omega
          subst hkn
          rw [Nat.sub_self, show xs.take k = xs by rw [← hxl, List.take_length]] at hrow
          have hbe : Below w.heap.size w wr := hb3.trans (hbel.mono hb3.size)
          go_wp2_with (fail)
          go_ret
          rw [← hxs.out, ← hn.out]
          exact ⟨g, rfl, owns_mono (by simpa using hrow) hwg, hbe⟩
    · intro s v kl' yd yp w2 cnt2 hkey hlk hv hat hrg2 hlt2 hg2 hs2 hen
      obtain ⟨s', e1, rfl⟩ := keyS_inv hkey
      simp only [Value.string.injEq] at e1
      subst e1
      simp only [tokR, Option.some.injEq, Prod.mk.injEq] at hv
      obtain ⟨rfl, rfl⟩ := hv
      have hms := hsay.inv hat
      have hne : ofR s L ≠ [] := fun e => by rw [hR.noRow s e] at hms; cases hms
      have hcnt : wr.rangeLeft B r = cnt := hrg.left_eq
      have hsk : s ∉ ks := fun k => by
        have := (hks.out.2 s (by rw [hms]; simp)).2 k
        rw [hlk] at this; cases this
      have hks2 : Hid ((ks ++ [s]).Nodup ∧ ∀ y, m y ≠ none → ((left (kl y) && !(kl y).sameKey (kl s)) = false ↔ y ∈ ks ++ [s])) := by
        refine ⟨by rw [List.nodup_append]; exact ⟨hks.out.1, by simp, fun a ha b hb => by simp at hb; rw [hb]; exact fun e => hsk (e ▸ ha)⟩, fun y hy => ?_⟩
        by_cases e : y = s
        · subst e
          have : (kl y).sameKey (kl y) = true := by simp [kl, Lit.sameKey]
          simp [this]
        · have : (kl y).sameKey (kl s) = false := by
            rw [Bool.eq_false_iff]
            intro k
            exact e (kl_inj (by simpa [kl, Lit.sameKey] using k))
          simp only [this, Bool.not_false, Bool.and_true, List.mem_append, List.mem_singleton, e, or_false]
          exact hks.out.2 y hy
      have hbw2 : Below w.heap.size w w2 := hbw.grown hg2 hbw.size (fun j hj => by cases hj; exact Nat.le_of_eq hr0.out.symm)
      have hsz2 : r < w2.heap.size := hrg2.lt
      obtain ⟨gs, os, cs, hv2, hro⟩ := (hR.on hbw2).aRow s hne
      rw [hms] at hv2
      simp only [Option.some.injEq] at hv2
      subst hv2
      have hrow2 := hrow.kept hg2 (.inr (fun e => by have := (hrow.lt r e).1; omega))
      have hnews := plIn_news hro rfl
      have hlen := rows_len L (ks ++ [s]) hks2.out.1
      rw [List.flatMap_append, List.flatMap_singleton, List.length_append] at hlen
      have hfl : flatP ((ks ++ [s]).flatMap fun s => ofR s L) = flatP (ks.flatMap fun s => ofR s L) ++ flatP (ofR s L) := by rw [List.flatMap_append, List.flatMap_singleton, flatP_append]
      have hfn : ((ks ++ [s]).flatMap fun s => ofR s L).length = (ks.flatMap fun s => ofR s L).length + (ofR s L).length := by rw [List.flatMap_append, List.flatMap_singleton, List.length_append]
      have hone := flatP_one (ofR s L)
      have hnl := flatP_length (ofR s L)
      have hpos : 0 < (ofR s L).length := List.length_pos_iff.2 hne
      obtain ⟨dn, hdn⟩ : ∃ dn, dn = ks.flatMap fun s => ofR s L := ⟨_, rfl⟩
      rw [← hdn] at hrow2 hlen hfl hfn
      obtain ⟨rs, hrs⟩ : ∃ rs, rs = ofR s L := ⟨_, rfl⟩
      rw [← hrs] at hro hnews hlen hfl hfn hone hnl hpos hen ⊢
      clear hdn hrs hat hkey hlk hg2 hs2 hrg hrow hks hbw hne hsk hsay hms
      go_wp2_with (first
        | (at_builtin; refine wpList_append_lies _ rfl _ _ 77 rfl (r + 1) 96 i0 _ 5 64 Try.underlying77 hi hz0 hz1 hz2 rfl (by decide) _ dn.length (flatP dn) rfl hrow2 ⟨gs, os, none⟩ rs.length cs (flatP rs) rfl hnl hnews hone hpos (by unfold maxLen; omega) (by omega) (by omega) w2.heap.size rfl ?_; intro g4 c4 w4 hr4 hg4 hl4 hgl4)
        | go_in)
      have hrB : B < r := by have := hR.map.lt; have := hr0.out; omega
      have hrg4 := hrg2.kept hg4 (fun e => by have := (hrow2.lt B e.symm).1; omega) (fun e => by have := (hrow2.lt r e.symm).1; omega)
      have hb4 : Below r w w4 := by
        rw [hr0.out]
        exact hbw2.grown hg4 hbw2.size (fun k hk => by have := (hrow2.lt k hk).1; have := hr0.out; omega)
      have hcnt4 := hrg4.left_eq
      clear hro hnews hlen hone hnl hpos hrg2 hbw2 hrow2 hg4 hl4 hgl4 hsz2 hen hR
      go_wp2_with (fail)
      go_roundw
      case rel => exact ⟨_, cnt2, ks ++ [s], hrg4, hks2, by rw [hfn, hfl]; exact hr4, hb4⟩
      case measure => rw [hcnt4, hcnt]; exact hlt2

end Go.Proofs.Ytggbmpgpopenoaa
