/-
  The laws' own copy of a list of items. Conditions: items that lie there, as many as a law hands over.
-/
import Derived.Test.YtggbmpgpopenoaaItems
namespace Go.Proofs.Ytggbmpgpopenoaa
open Go.RowKit
set_option maxRecDepth 100000

theorem infoItem : (Try.prog.info? 26).map (fun i => (i.zero, i.size, i.bytes)) = some (some (.agg #[.string ByteArray.empty, .int .i64 0, .int .i64 0, .slice none 0 0]), 4, 56) := by kernel_rfl

theorem made_items (n : Nat) : (madeCells #[.string ByteArray.empty, .int .i64 0, .int .i64 0, .slice none 0 0] (n * 4)).toList = flatI (List.replicate n default) := by
  induction n with
  | zero => simp [madeCells, flatI]
  | succ n ih =>
    rw [List.replicate_succ', flatI_append, ← ih]
    simp only [madeCells, Array.toList_map, Array.toList_range]
    rw [show (n + 1) * 4 = n * 4 + 4 by omega, List.range_add, List.map_append]
    congr 1
    have e : ∀ k, (n * 4 + k) % 4 = k % 4 := fun k => by omega
    simp [flatI, ItA.vals, List.range_succ, default, e]

theorem noItems (w : World) (lo g n cap : Nat) (h : w.ownsRow lo 26 4 (.slice (some ⟨g, 0, none⟩) n cap) n (flatI (List.replicate n default))) : OwnItems w lo w.heap.size (.slice (some ⟨g, 0, none⟩) n cap) n (List.replicate n default) := by
  have e : ∀ x ∈ List.replicate n (default : ItA), x = default := fun x hx => (List.mem_replicate.1 hx).2
  refine ⟨by simp, h, fun k hk => (h.lt k hk).2, fun x hx => ?_, fun x hx => ?_, ?_⟩
  · rw [e x hx]
    exact ⟨World.ownsRow_nil _ _ _ _, fun k hk => by cases hk⟩
  · rw [e x hx]
    exact .inl rfl
  · rw [List.pairwise_iff_getElem]
    intro i j hi hj _
    left
    rw [List.getElem_replicate]
    rfl

set_option maxHeartbeats 4000000 in
theorem toItemS_own (p : Option Addr) (n c : Nat) (its : List ItA) (w : World) (hn : n ≤ 1048576) (hl : its.length = n) (h : ItemsIn w p n its) (ok : ∀ x ∈ its, x.Ok w) (fit : ∀ x ∈ its, x.n ≤ 1048576) :
    Calls Try.prog 34 #[.slice p n c] w fun e w' => ∃ p' c' its', e = .returned (.slice p' n c') ∧ OwnItems w' w.heap.size w'.heap.size (.slice p' n c') n its' ∧ Hid (its'.map ItA.con = its.map ItA.con) ∧ Below w.heap.size w w' := by
  obtain ⟨i0, hi, hz0, hz1, hz2⟩ := info_parts infoItem
  go_enter Try.func34, Try.ntmps34
  go_wp2_with (at_make; refine wpList_make_full _ rfl _ _ 24 rfl w.heap.size 26 i0 _ 4 Try.underlying24 hi hz0 hz1 _ _ _ _ n rfl rfl rfl rfl ?b2 ?b3 ?b4 ?_)
  case b2 => rw [hz2]; omega
  case b3 => unfold maxLen; omega
  case b4 => exact Nat.le_refl _
  intro w1 hown hgrow
  rw [made_items n] at hown
  have hbel : Below w.heap.size w w1 := (Below.refl _ _).grown hgrow (Nat.le_refl _) (fun _ h => by cases h)
  have hO := noItems _ _ _ _ _ hown
  clear hgrow hown
  obtain ⟨g, hg⟩ : ∃ g, g = w.heap.size := ⟨_, rfl⟩
  have hgw : g < w1.heap.size := hO.top g (by rw [hg]; rfl)
  rw [← hg] at hO hbel ⊢
  replace hg : Hid (g = w.heap.size) := hg
  go_wp2
  go_loopw [4] (fun i wr => ∃ k : Nat, k ≤ n ∧ i = .int .i64 k ∧ (∃ done : List ItA, done.length = k ∧ Hid (done.map ItA.con = (its.take k).map ItA.con) ∧ OwnItems wr g wr.heap.size (.slice (some ⟨g, 0, none⟩) n n) n (done ++ List.replicate (n - k) default)) ∧ Below g w wr)
    (fun i _ => n - (intOf i).toNat)
  case atStart => exact ⟨0, Nat.zero_le _, rfl, ⟨[], rfl, rfl, hO⟩, hbel⟩
  case round =>
    clear hO hbel hgw
    obtain ⟨k, hk, rfl, ⟨done, hdl, hdc, hO⟩, hbel⟩ := hrel
    have hgw : g < wr.heap.size := hO.top g rfl
    rw [hg.out] at hbel
    by_cases hlt : k < n
    · have hgo := hg.out
      obtain ⟨b, o, rfl, hc⟩ := h (by omega)
      have hkl : k < its.length := by omega
      obtain ⟨x, hx⟩ : ∃ x, x = its.getD k default := ⟨_, rfl⟩
      have hxm : x ∈ its := by rw [hx, List.getD_eq_getElem?_getD, List.getElem?_eq_getElem hkl]; exact List.getElem_mem _
      have hxe : its.take (k + 1) = its.take k ++ [x] := by
        rw [List.take_add_one, hx, List.getElem?_eq_getElem hkl]
        simp [List.getD_eq_getElem?_getD, List.getElem?_eq_getElem hkl]
      have okx := (ok x hxm).on hbel
      have hnx := fit x hxm
      have hI := itemsIn_on h hbel
      obtain ⟨b', o', hpe, hc'⟩ := hI (by omega)
      simp only [Option.some.injEq, Addr.mk.injEq, and_true] at hpe
      obtain ⟨rfl, rfl⟩ := hpe
      have l0 : wr.cell? ⟨b, o + k * 4, none⟩ = some (.string x.s) := by rw [hx]; exact hc' k 0 _ hlt rfl
      have l1 : wr.cell? ⟨b, o + k * 4 + 1, none⟩ = some (.int .i64 x.t) := by rw [hx]; exact hc' k 1 _ hlt rfl
      have l2 : wr.cell? ⟨b, o + k * 4 + 2, none⟩ = some (.int .i64 x.d) := by rw [hx]; exact hc' k 2 _ hlt rfl
      have l3 : wr.cell? ⟨b, o + k * 4 + 3, none⟩ = some (.slice x.p x.n x.c) := by rw [hx]; exact hc' k 3 _ hlt rfl
      obtain ⟨s, t, d, xp, xn, xc, xs⟩ := x
      replace hdc : Hid (done.map ItA.con ++ [(s, t, d, xs)] = (its.take (k + 1)).map ItA.con) := by
        rw [Hid, hxe, List.map_append, hdc.out]; rfl
      dsimp only at l0 l1 l2 l3 hnx
      have okb := okx.bytes
      have okl := okx.len
      dsimp only at okb okl
      clear hgo hx hxm hxe hI hc hc' h okx ok fit
      go_wp2_with (fail)
      refine (toItem_own s t d xp xn xc xs _ hnx okl okb).mono ?_
      rintro z w2 ⟨p2, c2, rfl, r2, b2⟩
      have hgo := hg.out
      have hO2 := (hO.on b2).wide (lo' := g) (hi' := w2.heap.size) (Nat.le_refl _) b2.size
      have hbel2 := below_on hbel b2
      obtain ⟨⟨u0, c0⟩, ⟨u1, c1⟩, ⟨u2, c2'⟩, ⟨u3, c3⟩, f0, f1, f2, f3⟩ := store_item ⟨s, t, d, p2, xn, c2, xs⟩ hO2.row hlt hO2.len
      dsimp only at c0 c1 c2' c3 f0 f1 f2 f3
      have hO3 := hO2.set (k := k) (x := ⟨s, t, d, p2, xn, c2, xs⟩) hlt (r2.wide (by omega) (Nat.le_refl _)) (.inr fun e => by have := (r2.1.lt _ e).1; omega) (fun y hy => by
        rcases hB : y.slice.ownBlock with _ | j
        · exact .inl rfl
        · right
          intro e
          have h1 := (hO.bytes y hy).2 j hB
          have h2 := (r2.1.lt j e.symm).1
          omega)
      have hset : (done ++ List.replicate (n - k) (default : ItA)).set k ⟨s, t, d, p2, xn, c2, xs⟩ = (done ++ [⟨s, t, d, p2, xn, c2, xs⟩]) ++ List.replicate (n - (k + 1)) default := by
        rw [List.set_append_right _ _ (by omega), hdl, Nat.sub_self, show n - k = (n - (k + 1)) + 1 by omega, List.replicate_succ]
        simp
      rw [hset] at hO3
      have hbel3 : Below w.heap.size w (setItem w2 g k ⟨s, t, d, p2, xn, c2, xs⟩) := hbel2.grown (setItem_grown _ _ _ _) hbel2.size (fun j hj => by cases hj; omega)
      have hsz : (setItem w2 g k ⟨s, t, d, p2, xn, c2, xs⟩).heap.size = w2.heap.size := by simp [setItem]
      rw [← hsz] at hO3
      obtain ⟨X, hX⟩ : ∃ X, X = setItem w2 g k ⟨s, t, d, p2, xn, c2, xs⟩ := ⟨_, rfl⟩
      rw [← hX] at hO3 hbel3
      replace hX : Hid ((((w2.setCell ⟨g, k * 4, none⟩ (.string s)).setCell ⟨g, k * 4 + 1, none⟩ (.int .i64 t)).setCell ⟨g, k * 4 + 2, none⟩ (.int .i64 d)).setCell ⟨g, k * 4 + 3, none⟩ (.slice p2 xn c2) = X) := hX.symm
      have hnew : Hid ((done ++ [(⟨s, t, d, p2, xn, c2, xs⟩ : ItA)]).map ItA.con = (its.take (k + 1)).map ItA.con) := by
        rw [Hid, List.map_append, ← hdc.out]; rfl
      rw [← hg.out] at hbel3
      clear hgo hset hsz hO2 hO hbel hbel2 b2 r2 hdc
      go_wp2_with (rw [hX.out])
      go_roundw
      case rel => exact ⟨k + 1, by omega, by go_num, ⟨_, by simp [hdl], hnew, hO3⟩, hbel3⟩
      case measure => simp [intOf]; omega
    · have hkn : k = n := by omega
      subst hkn
      rw [Nat.sub_self] at hO
      have hO' : OwnItems wr g wr.heap.size (.slice (some ⟨g, 0, none⟩) k k) k done := by simpa using hO
      have hall : Hid (done.map ItA.con = its.map ItA.con) := by rw [Hid, hdc.out, ← hl, List.take_length]
      clear hO hdc
      rw [← hg.out] at hbel
      go_wp2_with (fail)
      go_ret
      rw [← hg.out]
      exact ⟨_, _, done, rfl, hO', hall, hbel⟩

end Go.Proofs.Ytggbmpgpopenoaa
