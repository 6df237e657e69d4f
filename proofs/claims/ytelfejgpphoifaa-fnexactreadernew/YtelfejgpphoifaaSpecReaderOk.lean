/-
  Whether a reader is right, as the specification tells it. Conditions: a reader that can be read.
-/
import Derived.Test.YtelfejgpphoifaaSpecRead
import Derived.Test.YtelfejgpphoifaaHasKeys
import Derived.Deep.RegionHeld3
namespace Go.Proofs.Ytelfejgpphoifaa
open Go.RowKit
set_option maxRecDepth 100000

/-- What is asked of the letter at place i and of its note. -/
def okAtR (rs gs : List RwA) (i : Nat) : Prop := ((rs.getD i default).n : Int) ≤ 1560 ∧ ((gs.getD i default).n : Int) ≤ 200 ∧ (rs.getD i default).xs ∉ (rs.take i).map RwA.xs
/-- What a right reader is. -/
def ROk (x : RdA) : Prop := x.s.n = 32 ∧ (0 ≤ x.e ∧ x.e ≤ 40) ∧ x.n ≤ 20 ∧ x.m = x.n ∧ ∀ i, i < x.n → okAtR x.seen x.got i
noncomputable def rB (x : RdA) : Bool := @decide (ROk x) (Classical.propDecidable _)
theorem rB_true {x : RdA} (h : ROk x) : rB x = true := by unfold rB; exact @decide_eq_true _ (Classical.propDecidable _) h
theorem rB_false {x : RdA} (h : ¬ ROk x) : rB x = false := by unfold rB; exact @decide_eq_false _ (Classical.propDecidable _) h

theorem take_memR {rs : List RwA} {j k : Nat} {x : RwA} (hj : j < k) (hk : k ≤ rs.length) (h : rs.getD j default = x) : x ∈ rs.take k := by
  have hjl : j < (rs.take k).length := by rw [List.length_take]; omega
  rw [← h, List.getD_eq_getElem?_getD, ← List.getElem?_take_of_lt (l := rs) hj, List.getElem?_eq_getElem hjl]
  exact List.getElem_mem _

set_option maxHeartbeats 8000000 in
theorem specReaderOk_any (x : RdA) (w : World) (ok : x.Ok w) :
    Calls Try.prog 7 #[.agg x.cells] w fun z w' => z = .returned (.bool (rB x)) ∧ Below w.heap.size w w' := by
  obtain ⟨⟨sp, sn, sc, sx⟩, e, p, n, c, seen, q, m, d, got⟩ := x
  have E1 : RdA.cells ⟨⟨sp, sn, sc, sx⟩, e, p, n, c, seen, q, m, d, got⟩ = #[.slice sp sn sc, .int .i64 e, .slice p n c, .slice q m d] := rfl
  rw [E1]
  obtain ⟨R, hR⟩ : ∃ R : Bool, R = rB ⟨⟨sp, sn, sc, sx⟩, e, p, n, c, seen, q, m, d, got⟩ := ⟨_, rfl⟩
  rw [← hR]
  have hno : Hid (¬ (sn = 32 ∧ (0 ≤ e ∧ e ≤ 40) ∧ n ≤ 20 ∧ m = n) → R = false) := fun h => by rw [hR]; exact rB_false fun k => h ⟨k.1, k.2.1, k.2.2.1, k.2.2.2.1⟩
  have hat : Hid (∀ i, i < n → ¬ okAtR seen got i → R = false) := fun i hi h => by rw [hR]; exact rB_false fun k => h (k.2.2.2.2 i hi)
  have hall : Hid (sn = 32 ∧ (0 ≤ e ∧ e ≤ 40) ∧ n ≤ 20 ∧ m = n → (∀ i, i < n → okAtR seen got i) → R = true) := fun h k => by rw [hR]; exact rB_true ⟨h.1, h.2.1, h.2.2.1, h.2.2.2, k⟩
  have rows := ok.seen
  have rows2 := ok.got
  have hn := ok.seed.hn
  have he := ok.he
  dsimp only at rows rows2 hn he
  have hn1 := rows.hn
  have hn2 := rows2.hn
  clear ok E1 hR
  have CI := l1In_any e 0 40
  by_cases h1 : sn = 32
  · by_cases h2 : 0 ≤ e ∧ e ≤ 40
    · rw [decide_eq_true h2] at CI
      by_cases h3 : n ≤ 20
      · have h3' : ¬ (20 < (n : Int)) := by omega
        by_cases h4 : m = n
        · have hd : ((n : Int) != (n : Int)) = false := by simp
          replace hall := hall.out ⟨h1, h2, h3, h4⟩
          replace hall : Hid ((∀ i, i < n → okAtR seen got i) → R = true) := hall
          subst h1 h4
          clear hno h2 he
          go_enter Try.func7, Try.ntmps7
          go_wp2_with (first | (go_at_call 22; refine (CI _).mono ?_; rintro z w2 ⟨rfl, rfl⟩))
          have hlen := rows.len
          have hlen2 := rows2.len
          go_loopw [3] (fun i wr => ∃ k : Nat, k ≤ m ∧ i = .int .i64 k ∧ Hid (∀ j, j < k → okAtR seen got j) ∧ Cells wr w.heap.size #[.slice sp 32 sc, .int .i64 e, .slice p m c, .slice q m d] ∧ Below w.heap.size w wr) (fun i _ => m - (intOf i).toNat)
          case atStart => exact ⟨0, Nat.zero_le _, rfl, fun j hj => absurd hj (Nat.not_lt_zero _), Cells.made w _ _, made_below _ _ (Below.refl _ _)⟩
          case round =>
            obtain ⟨k, hk, rfl, hdone, hC, hbel⟩ := hrel
            have c2 : wr.cell? ⟨w.heap.size, 2, none⟩ = some (.slice p m c) := (hC.2 2).1
            have c3 : wr.cell? ⟨w.heap.size, 3, none⟩ = some (.slice q m d) := (hC.2 3).1
            by_cases hlt : k < m
            · obtain ⟨b0, o0, y, rfl, m0, hy, ly⟩ := (rows2.on hbel).at hlt
              obtain ⟨b, o, x, rfl, l0, hx, lx⟩ := (rows.on hbel).at hlt
              have lxn := lx.hn
              have lyn := ly.hn
              have hok : Hid (okAtR seen got k ↔ (x.n : Int) ≤ 1560 ∧ (y.n : Int) ≤ 200 ∧ x.xs ∉ (seen.take k).map RwA.xs) := by rw [Hid, okAtR, hx, hy]
              obtain ⟨xp, xn, xc, xs⟩ := x
              obtain ⟨yp, yn, yc, ys⟩ := y
              dsimp only at l0 m0 lxn lyn hok
              by_cases g1 : (xn : Int) ≤ 1560
              · have g1' : ¬ 1560 < (xn : Int) := by omega
                by_cases g2 : (yn : Int) ≤ 200
                · have g2' : ¬ 200 < (yn : Int) := by omega
                  replace hok : Hid (okAtR seen got k ↔ xs ∉ (seen.take k).map RwA.xs) := ⟨fun h => (hok.out.1 h).2.2, fun h => hok.out.2 ⟨g1, g2, h⟩⟩
                  go_wp2_with (fail)
                  go_loopw [4] (fun i wj => ∃ j : Nat, j ≤ k ∧ i = .int .i64 j ∧ Hid (xs ∉ (seen.take j).map RwA.xs) ∧ Cells wj w.heap.size #[.slice sp 32 sc, .int .i64 e, .slice (some ⟨b, o, none⟩) m c, .slice (some ⟨b0, o0, none⟩) m d] ∧ Below w.heap.size w wj) (fun i _ => k - (intOf i).toNat)
                  case atStart => exact ⟨0, Nat.zero_le _, rfl, by simp [Hid], hC, hbel⟩
                  case round =>
                    clear hC hbel c2 c3 l0 m0 lx ly hy
                    obtain ⟨j, hj, rfl, hnot, hC, hbel⟩ := hrel
                    by_cases hjk : j < k
                    · obtain ⟨b', o', z, e1, n0, hz, lz⟩ := (rows.on hbel).at (show j < m by omega)
                      simp only [Option.some.injEq, Addr.mk.injEq, and_true] at e1
                      obtain ⟨rfl, rfl⟩ := e1
                      obtain ⟨b', o', x2, e1, l0, hx2, lx⟩ := (rows.on hbel).at hlt
                      simp only [Option.some.injEq, Addr.mk.injEq, and_true] at e1
                      obtain ⟨rfl, rfl⟩ := e1
                      rw [hx] at hx2
                      subst hx2
                      dsimp only at l0
                      have hmem : Hid (z.xs = xs → R = false) := fun q => hat.out k hlt fun h => hok.out.1 h (List.mem_map.2 ⟨z, take_memR hjk (by omega) hz, q⟩)
                      have hst : Hid (z.xs ≠ xs → xs ∉ (seen.take (j + 1)).map RwA.xs) := fun q => among_step (by omega) hz q hnot.out
                      obtain ⟨zp, zn, zc, zs⟩ := z
                      dsimp only at n0 hmem hst
                      have c2 : wr.cell? ⟨w.heap.size, 2, none⟩ = some (.slice (some ⟨b, o, none⟩) m c) := (hC.2 2).1
                      have CS := fun X (b1 : Below wr.heap.size wr X) => specSame_any zp xp zn xn zc xc zs xs X lz.len lx.len (in_below lz.bytes b1) (in_below lx.bytes b1)
                      have HK : ∀ X, Below wr.heap.size wr X → X.cell? ⟨w.heap.size, 2, none⟩ = some (.slice (some ⟨b, o, none⟩) m c) ∧ X.cell? ⟨b, o + j, none⟩ = some (.slice zp zn zc) ∧ X.cell? ⟨b, o + k, none⟩ = some (.slice xp xn xc) := fun X hX => ⟨(hX.cell hC.1).trans c2, (hX.cell (World.block_lt_of_cell? wr _ n0)).trans n0, (hX.cell (World.block_lt_of_cell? wr _ l0)).trans l0⟩
                      have hjm : j < m := by omega
                      have hjm2 : (j : Int) < (m : Int) := by omega
                      have bdr : Below wr.heap.size wr wr.drew := (Below.refl _ _).drew
                      have same := same_rows lz.byte lx.byte
                      dsimp only at same CS
                      rw [same] at CS
                      by_cases hxy : zs = xs
                      · have hr := hmem.out hxy
                        rw [decide_eq_true hxy] at CS
                        subst hr
                        clear hmem hst hat hall hdone hok hx hz lx lz same hnot rows rows2 hxy n0 l0
                        go_wp2_with (fail)
                        go_region_held3 (fun w' => w'.cell? ⟨w.heap.size, 2, none⟩ = some (.slice (some ⟨b, o, none⟩) m c) ∧ w'.cell? ⟨b, o + j, none⟩ = some (.slice zp zn zc) ∧ w'.cell? ⟨b, o + k, none⟩ = some (.slice xp xn xc)) (exact HK _ (by repeat (with_reducible (first | exact Below.refl _ _ | refine Below.drew ?_ | refine below_on ?_ b2)))) (first | (go_at_call 23; refine (CS _ bdr).mono ?_; rintro z w2 ⟨rfl, b2⟩))
                        have hbel2 := below_on (below_on hbel bdr) b2
                        clear b2 hbel bdr HK
                        go_wp2_with (fail)
                        go_ret
                        exact ⟨rfl, hbel2⟩
                      · have hst2 := hst.out hxy
                        replace hst2 : Hid (xs ∉ (seen.take (j + 1)).map RwA.xs) := hst2
                        rw [decide_eq_false hxy] at CS
                        clear hmem hst hat hall hdone hok hx hz lx lz same hnot rows rows2 hxy n0 l0
                        go_wp2_with (fail)
                        go_region_held3 (fun w' => w'.cell? ⟨w.heap.size, 2, none⟩ = some (.slice (some ⟨b, o, none⟩) m c) ∧ w'.cell? ⟨b, o + j, none⟩ = some (.slice zp zn zc) ∧ w'.cell? ⟨b, o + k, none⟩ = some (.slice xp xn xc)) (exact HK _ (by repeat (with_reducible (first | exact Below.refl _ _ | refine Below.drew ?_ | refine below_on ?_ b2)))) (first | (go_at_call 23; refine (CS _ bdr).mono ?_; rintro z w2 ⟨rfl, b2⟩))
                        have hbel2 := below_on (below_on hbel bdr) b2
                        have hC2 := (hC.on bdr).on b2
                        clear b2 hbel bdr HK hC
                        go_wp2_with (fail)
                        go_roundw
                        case rel => exact ⟨j + 1, by omega, by go_num, hst2, hC2, hbel2⟩
                        case measure => simp [intOf]; omega
                    · have hjk' : j = k := by omega
                      subst hjk'
                      have hnew : Hid (∀ l, l < j + 1 → okAtR seen got l) := fun l hl => by
                        rcases Nat.lt_succ_iff_lt_or_eq.1 hl with e | e
                        · exact hdone.out l e
                        · rw [e]; exact hok.out.2 hnot.out
                      clear hdone hok hnot hat hall hx
                      go_wp2_with (fail)
                      go_roundw
                      case rel => exact ⟨j + 1, by omega, by go_num, hnew, hC, hbel⟩
                      case measure => simp [intOf]; omega
                · have g2' : 200 < (yn : Int) := by omega
                  have hr := hat.out k hlt fun h => g2 (hok.out.1 h).2.1
                  subst hr
                  clear hat hall hdone hok hx hy lx ly g2
                  go_wp2_with (fail)
                  go_ret
                  exact ⟨rfl, hbel⟩
              · have g1' : 1560 < (xn : Int) := by omega
                have hr := hat.out k hlt fun h => g1 (hok.out.1 h).1
                subst hr
                clear hat hall hdone hok hx hy lx ly g1
                go_wp2_with (fail)
                go_ret
                exact ⟨rfl, hbel⟩
            · have hkn : k = m := by omega
              subst hkn
              have hr := hall.out hdone.out
              subst hr
              clear hat hall hdone rows rows2
              go_wp2_with (fail)
              go_ret
              exact ⟨rfl, hbel⟩
        · have hd : ((m : Int) != (n : Int)) = true := by simp; omega
          have hr := hno.out fun k => h4 k.2.2.2
          subst hr
          subst h1
          clear hno hat hall h2 he h4
          go_enter Try.func7, Try.ntmps7
          go_wp2_with (first | (go_at_call 22; refine (CI _).mono ?_; rintro z w2 ⟨rfl, rfl⟩))
          go_ret
          exact ⟨rfl, made_below _ _ (Below.refl _ _)⟩
      · have h3' : 20 < (n : Int) := by omega
        have hr := hno.out fun k => h3 k.2.2.1
        subst hr
        subst h1
        clear hno hat hall h2 he h3
        go_enter Try.func7, Try.ntmps7
        go_wp2_with (first | (go_at_call 22; refine (CI _).mono ?_; rintro z w2 ⟨rfl, rfl⟩))
        go_ret
        exact ⟨rfl, made_below _ _ (Below.refl _ _)⟩
    · rw [decide_eq_false h2] at CI
      have hr := hno.out fun k => h2 k.2.1
      subst hr
      subst h1
      clear hno hat hall h2 he
      go_enter Try.func7, Try.ntmps7
      go_wp2_with (first | (go_at_call 22; refine (CI _).mono ?_; rintro z w2 ⟨rfl, rfl⟩))
      go_ret
      exact ⟨rfl, made_below _ _ (Below.refl _ _)⟩
  · have hd : ((sn : Int) != 32) = true := by simp; omega
    have hr := hno.out fun k => h1 k.1
    subst hr
    clear hno hat hall he h1 CI
    go_enter Try.func7, Try.ntmps7
    go_wp2_with (fail)
    go_ret
    exact ⟨rfl, made_below _ _ (Below.refl _ _)⟩

end Go.Proofs.Ytelfejgpphoifaa
