/-
  What is put into a queue, as the specification says it. Conditions: items that lie there, as many as a law hands over.
-/
import Derived.Test.YtggbmpgpopenoaaImplPut
import Derived.Test.YtggbmpgpopenoaaQueueOkLaw
namespace Go.Proofs.Ytggbmpgpopenoaa
open Go.RowKit
set_option maxRecDepth 100000

theorem putK_step (x : ItA) (its : List ItA) (k : Nat) (h : k < its.length) : putK x (its.take (k + 1)) = putK x (its.take k) ++ putK x [its.getD k default] := by
  rw [take_getD h]
  simp [putK]
theorem putK_len (x : ItA) (its : List ItA) : (putK x its).length ≤ its.length := List.length_filter_le _ _

set_option maxHeartbeats 8000000 in
theorem specPut_any (p : Option Addr) (n c : Nat) (its : List ItA) (x : ItA) (w : World) (hn : n ≤ 1048576) (hl : its.length = n) (h : ItemsIn w p n its) (li : ∀ y ∈ its, y.Lies w) (fit : ∀ y ∈ its, y.n ≤ 1048576) (hsz : ∀ y ∈ its, y.s.size ≤ 1048576) (lx : x.Lies w) (fx : x.n ≤ 1048576) (sx : x.s.size ≤ 1048576) :
    Calls Try.prog 12 #[.slice p n c, .agg #[.string x.s, .int .i64 x.t, .int .i64 x.d, .slice x.p x.n x.c]] w fun e w' => ∃ (q : Option Addr) (cq : Nat) (its' : List ItA), e = .returned (.tuple #[.slice q (putR x its).length cq, .bool (qB (putL x its))]) ∧
      OwnItems w' w.heap.size w'.heap.size (.slice q (putR x its).length cq) (putR x its).length its' ∧ Hid (its'.map ItA.con = (putR x its).map ItA.con) ∧ Below w.heap.size w w' := by
  obtain ⟨w0, hw0⟩ : ∃ w0, w0 = w.alloc (.cells #[.string x.s, .int .i64 x.t, .int .i64 x.d, .slice x.p x.n x.c] 26) := ⟨_, rfl⟩
  have b0 : Below w.heap.size w w0 := by rw [hw0]; exact made_below _ _ (Below.refl _ _)
  have C0 : Cells w0 w.heap.size #[.string x.s, .int .i64 x.t, .int .i64 x.d, .slice x.p x.n x.c] := by rw [hw0]; exact Cells.made _ _ _
  replace hw0 : Hid (w.alloc (.cells #[.string x.s, .int .i64 x.t, .int .i64 x.d, .slice x.p x.n x.c] 26) = w0) := hw0.symm
  have hN := OwnItems.none13 w0 w0.heap.size (Nat.le_refl _)
  obtain ⟨w1, hw1⟩ : ∃ w1, w1 = w0.alloc (.cells #[] 26) := ⟨_, rfl⟩
  have b1 : Below w0.heap.size w0 w1 := by rw [hw1]; exact made_below _ _ (Below.refl _ _)
  rw [← hw1] at hN
  replace hw1 : Hid (w0.alloc (.cells #[] 26) = w1) := hw1.symm
  have hX0 : w.heap.size < w0.heap.size := C0.1
  have z1 := b1.size
  go_enter Try.func12, Try.ntmps12
  go_wp2_with (first | rw [hw0.out] | rw [hw1.out])
  obtain ⟨XB, hXB⟩ : ∃ XB, XB = w.heap.size := ⟨_, rfl⟩
  rw [← hXB] at C0 ⊢
  have hXw : w.heap.size ≤ XB ∧ XB < w0.heap.size := by omega
  clear hw1 hw0 hXB
  go_loopw [6, 7] (fun a i wr => ∃ k : Nat, k ≤ n ∧ i = .int .i64 k ∧ (∃ (done : List ItA) (j g cap : Nat), a = .slice (some ⟨g, 0, none⟩) j cap ∧ j ≤ k ∧ Hid (done.map ItA.con = (putK x (its.take k)).map ItA.con) ∧ OwnItems wr w0.heap.size wr.heap.size (.slice (some ⟨g, 0, none⟩) j cap) j done) ∧ Below w0.heap.size w0 wr) (fun _ i _ => n - (intOf i).toNat)
  case atStart => exact ⟨0, Nat.zero_le _, rfl, ⟨[], 0, w0.heap.size, 0, rfl, Nat.le_refl _, rfl, hN⟩, b1⟩
  case round =>
    clear hN b1
    obtain ⟨k, hk, rfl, ⟨done, j, g, cap, rfl, hj, hdc, hO⟩, hbel⟩ := hrel
    have hb0 := below_on b0 hbel
    have CX := C0.on hbel
    have e0 : wr.cell? ⟨XB, 0, none⟩ = some (.string x.s) := (CX.2 0).1
    have e1 : wr.cell? ⟨XB, 1, none⟩ = some (.int .i64 x.t) := (CX.2 1).1
    have e2 : wr.cell? ⟨XB, 2, none⟩ = some (.int .i64 x.d) := (CX.2 2).1
    have e3 : wr.cell? ⟨XB, 3, none⟩ = some (.slice x.p x.n x.c) := (CX.2 3).1
    by_cases hlt : k < n
    · obtain ⟨b, o, rfl, hc⟩ := itemsIn_on h hb0 (by omega)
      obtain ⟨y, hy⟩ : ∃ y, its.getD k default = y := ⟨_, rfl⟩
      obtain ⟨l0, l1, l2, l3⟩ := ItemsIn.at hc hlt hy
      have hym : y ∈ its := hy ▸ getD_mem (by omega)
      have ly := (li y hym).on hb0
      have hny := fit y hym
      have hst := putK_step x its k (by omega)
      rw [hy] at hst
      have hstay : Hid (¬ (0 < x.t ∧ y.s = x.s ∧ y.t = x.t) → done.map ItA.con ++ [y.con] = (putK x (its.take (k + 1))).map ItA.con) := fun q => by
        rw [hst, List.map_append, hdc.out]
        congr 1
        have : putK x [y] = [y] := by
          rw [putK, List.filter_eq_self]
          intro z hz
          rw [List.mem_singleton] at hz
          subst hz
          have := Classical.not_and_iff_not_or_not.1 q
          have h2 := fun (k : 0 < x.t) (k1 : z.s = x.s) (k2 : z.t = x.t) => q ⟨k, k1, k2⟩
          by_cases a1 : 0 < x.t
          · by_cases a2 : z.s = x.s
            · have a3 : z.t ≠ x.t := fun a3 => q ⟨a1, a2, a3⟩
              simp [a3]
            · simp [a2]
          · simp [a1]
        rw [this]; rfl
      have hgo : Hid ((0 < x.t ∧ y.s = x.s ∧ y.t = x.t) → done.map ItA.con = (putK x (its.take (k + 1))).map ItA.con) := fun q => by
        rw [hst, List.map_append, hdc.out]
        simp [putK, q.1, q.2.1, q.2.2]
      clear hst hdc hy hym hc h li fit CX
      obtain ⟨y1, y2, y3⟩ := ly
      have Bd : ∀ N, Below wr.heap.size wr (wr.drewN N) := fun N => below_drewN (Below.refl _ _) N
      by_cases hout : 0 < x.t ∧ y.s = x.s ∧ y.t = x.t
      · replace hgo : Hid _ := hgo.out hout
        obtain ⟨q1, q2, q3⟩ := hout
        rw [q2] at l0
        rw [q3] at l1
        have q0 : ¬ x.t ≤ 0 := by omega
        have tS : (x.s.toList == x.s.toList) = true := by simp
        clear hstay
        go_wp2_with (fail)
        go_quiet (fail)
        go_wp2_with (fail)
        go_roundw
        case rel => exact ⟨k + 1, by omega, by go_num, ⟨done, j, g, cap, rfl, by omega, hgo, hO.on (below_drewN (Below.refl _ _) _)⟩, below_drewN hbel _⟩
        case measure => simp [intOf]; omega
      · replace hstay : Hid _ := hstay.out hout
        clear hgo
        by_cases q1 : x.t ≤ 0
        · · clear hout
            go_wp2_with (fail)
            go_quiet (fail)
            go_wp2_with (fail)
            refine (l13Item_own y.s y.t y.d y.p y.n y.c y.xs _ hny y2 (in_below y3 (below_drewN (Below.refl _ _) _))).mono ?_
            rintro z w2 ⟨p2, c2, rfl, r2, b2⟩
            have b2' : Below wr.heap.size wr w2 := (below_drewN (Below.refl _ _) _).trans b2
            have hO2 := (hO.on b2').wide (lo' := w0.heap.size) (hi' := w2.heap.size) (Nat.le_refl _) b2'.size
            have hap := fresh_apart hO (x := ⟨y.s, y.t, y.d, p2, y.n, c2, y.xs⟩) r2
            have hbel2 := below_on hbel b2'
            have hz2 := hbel2.size
            have hnew : Hid ((done ++ [(⟨y.s, y.t, y.d, p2, y.n, c2, y.xs⟩ : ItA)]).map ItA.con = (putK x (its.take (k + 1))).map ItA.con) := by
              rw [Hid, List.map_append, ← hstay.out]; rfl
            have r2' : Own 5 w2 w0.heap.size w2.heap.size (ItA.slice ⟨y.s, y.t, y.d, p2, y.n, c2, y.xs⟩) y.n y.xs := Own.wide r2 hbel.size (Nat.le_refl _)
            clear hO b2 b2' r2 hstay l0 l1 l2 l3 e0 e1 e2 e3
            go_wp2_with (at_builtin; refine list_pushItem (w := w2) ⟨y.s, y.t, y.d, p2, y.n, c2, y.xs⟩ hO2 r2' hap.1 hap.2 (by omega) hz2 _ _ rfl rfl rfl rfl ?_; intro g3 c3 w3 hO3 hb3)
            go_roundw
            case rel => exact ⟨k + 1, by omega, by go_num, ⟨_, j + 1, g3, c3, rfl, by omega, hnew, hO3⟩, hbel2.trans hb3⟩
            case measure => simp [intOf]; omega
        · by_cases q2 : y.s = x.s
          · have q3 : y.t ≠ x.t := fun q3 => hout ⟨by omega, q2, q3⟩
            have q3' : (y.t != x.t) = true := by simp [q3]
            have tS : (y.s.toList == x.s.toList) = true := by rw [q2]; simp
            clear q2 q3 hout
            go_wp2_with (fail)
            go_quiet (fail)
            go_wp2_with (fail)
            refine (l13Item_own y.s y.t y.d y.p y.n y.c y.xs _ hny y2 (in_below y3 (below_drewN (Below.refl _ _) _))).mono ?_
            rintro z w2 ⟨p2, c2, rfl, r2, b2⟩
            have b2' : Below wr.heap.size wr w2 := (below_drewN (Below.refl _ _) _).trans b2
            have hO2 := (hO.on b2').wide (lo' := w0.heap.size) (hi' := w2.heap.size) (Nat.le_refl _) b2'.size
            have hap := fresh_apart hO (x := ⟨y.s, y.t, y.d, p2, y.n, c2, y.xs⟩) r2
            have hbel2 := below_on hbel b2'
            have hz2 := hbel2.size
            have hnew : Hid ((done ++ [(⟨y.s, y.t, y.d, p2, y.n, c2, y.xs⟩ : ItA)]).map ItA.con = (putK x (its.take (k + 1))).map ItA.con) := by
              rw [Hid, List.map_append, ← hstay.out]; rfl
            have r2' : Own 5 w2 w0.heap.size w2.heap.size (ItA.slice ⟨y.s, y.t, y.d, p2, y.n, c2, y.xs⟩) y.n y.xs := Own.wide r2 hbel.size (Nat.le_refl _)
            clear hO b2 b2' r2 hstay l0 l1 l2 l3 e0 e1 e2 e3
            go_wp2_with (at_builtin; refine list_pushItem (w := w2) ⟨y.s, y.t, y.d, p2, y.n, c2, y.xs⟩ hO2 r2' hap.1 hap.2 (by omega) hz2 _ _ rfl rfl rfl rfl ?_; intro g3 c3 w3 hO3 hb3)
            go_roundw
            case rel => exact ⟨k + 1, by omega, by go_num, ⟨_, j + 1, g3, c3, rfl, by omega, hnew, hO3⟩, hbel2.trans hb3⟩
            case measure => simp [intOf]; omega
          · have q2' := str_ne q2
            clear q2 hout
            go_wp2_with (fail)
            go_quiet (fail)
            go_wp2_with (fail)
            refine (l13Item_own y.s y.t y.d y.p y.n y.c y.xs _ hny y2 (in_below y3 (below_drewN (Below.refl _ _) _))).mono ?_
            rintro z w2 ⟨p2, c2, rfl, r2, b2⟩
            have b2' : Below wr.heap.size wr w2 := (below_drewN (Below.refl _ _) _).trans b2
            have hO2 := (hO.on b2').wide (lo' := w0.heap.size) (hi' := w2.heap.size) (Nat.le_refl _) b2'.size
            have hap := fresh_apart hO (x := ⟨y.s, y.t, y.d, p2, y.n, c2, y.xs⟩) r2
            have hbel2 := below_on hbel b2'
            have hz2 := hbel2.size
            have hnew : Hid ((done ++ [(⟨y.s, y.t, y.d, p2, y.n, c2, y.xs⟩ : ItA)]).map ItA.con = (putK x (its.take (k + 1))).map ItA.con) := by
              rw [Hid, List.map_append, ← hstay.out]; rfl
            have r2' : Own 5 w2 w0.heap.size w2.heap.size (ItA.slice ⟨y.s, y.t, y.d, p2, y.n, c2, y.xs⟩) y.n y.xs := Own.wide r2 hbel.size (Nat.le_refl _)
            clear hO b2 b2' r2 hstay l0 l1 l2 l3 e0 e1 e2 e3
            go_wp2_with (at_builtin; refine list_pushItem (w := w2) ⟨y.s, y.t, y.d, p2, y.n, c2, y.xs⟩ hO2 r2' hap.1 hap.2 (by omega) hz2 _ _ rfl rfl rfl rfl ?_; intro g3 c3 w3 hO3 hb3)
            go_roundw
            case rel => exact ⟨k + 1, by omega, by go_num, ⟨_, j + 1, g3, c3, rfl, by omega, hnew, hO3⟩, hbel2.trans hb3⟩
            case measure => simp [intOf]; omega
    · have hkn : k = n := by omega
      subst hkn
      rw [show its.take k = its by rw [← hl, List.take_length]] at hdc
      have lxr := lx.on hb0
      obtain ⟨x1, x2, x3⟩ := lxr
      have hCn : Hid (done.length = (putK x its).length) := by have := congrArg List.length hdc.out; rw [List.length_map, List.length_map] at this; exact this
      have hdl := hO.len
      have hz0 := hb0.size
      clear CX
      go_wp2_with (fail)
      refine (l13Item_own x.s x.t x.d x.p x.n x.c x.xs _ fx x2 x3).mono ?_
      rintro z w2 ⟨p2, c2, rfl, r2, b2⟩
      have hO2 := (hO.on b2).wide (lo' := w0.heap.size) (hi' := w2.heap.size) (Nat.le_refl _) b2.size
      have hap := fresh_apart hO (x := ⟨x.s, x.t, x.d, p2, x.n, c2, x.xs⟩) r2
      have hbel2 := below_on hbel b2
      have hz2 := hbel2.size
      have hnew : Hid ((done ++ [(⟨x.s, x.t, x.d, p2, x.n, c2, x.xs⟩ : ItA)]).map ItA.con = (putL x its).map ItA.con) := by
        rw [Hid, List.map_append, hdc.out, putL, List.map_append]; rfl
      have r2' : Own 5 w2 w0.heap.size w2.heap.size (ItA.slice ⟨x.s, x.t, x.d, p2, x.n, c2, x.xs⟩) x.n x.xs := Own.wide r2 hbel.size (Nat.le_refl _)
      have hdsz : ∀ y ∈ done ++ [(⟨x.s, x.t, x.d, p2, x.n, c2, x.xs⟩ : ItA)], y.s.size ≤ 1048576 := fun y hy => by
        rcases List.mem_append.1 hy with hy | hy
        · have : y.con ∈ (putK x its).map ItA.con := by rw [← hdc.out]; exact List.mem_map.2 ⟨y, hy, rfl⟩
          obtain ⟨v, hv, e⟩ := List.mem_map.1 this
          have e1 : v.s = y.s := congrArg Prod.fst e
          rw [← e1]
          exact hsz v (List.mem_filter.1 hv).1
        · rw [List.mem_singleton] at hy; rw [hy]; exact sx
      clear hO b2 r2 e0 e1 e2 e3
      go_wp2_with (at_builtin; refine list_pushItem (w := w2) ⟨x.s, x.t, x.d, p2, x.n, c2, x.xs⟩ hO2 r2' hap.1 hap.2 (by omega) hz2 _ _ rfl rfl rfl rfl ?_; intro g3 c3 w3 hO3 hb3)
      obtain ⟨D, hD⟩ : ∃ D, D = done ++ [(⟨x.s, x.t, x.d, p2, x.n, c2, x.xs⟩ : ItA)] := ⟨_, rfl⟩
      rw [← hD] at hnew hdsz hO3
      have hjL : Hid (j + 1 = (putL x its).length) := by rw [Hid, putL, List.length_append, ← hCn.out, hdl]; rfl
      have hk3 : Below w0.heap.size w0 w3 := hbel2.trans hb3
      have hkw3 := below_on b0 hk3
      have CQ := specQueueOkW_any (some ⟨g3, 0, none⟩) (j + 1) c3 D w3 (by omega) hO3.len hO3.items hdsz
      have hq : qB D = qB (putL x its) := qB_con hnew.out (fun y hy => by rcases List.mem_append.1 hy with hy | hy; exact (li y (List.mem_filter.1 hy).1).len; rw [List.mem_singleton] at hy; rw [hy]; exact lx.len) (fun y hy => (hO3.bytes y hy).len)
      rw [hq] at CQ
      obtain ⟨F, hF⟩ : ∃ F, F = qB (putL x its) := ⟨_, rfl⟩
      rw [← hF] at CQ
      replace hF : Hid (F = qB (putL x its)) := hF
      obtain ⟨nL, hnL⟩ : ∃ nL, nL = j + 1 := ⟨_, rfl⟩
      rw [← hnL] at CQ hO3 hjL ⊢
      clear hD hq hnL hap hO2 r2' hb3 hbel2 hbel hdc hdsz hCn hdl
      go_wp2_with (fail)
      refine CQ.mono ?_
      rintro z w4 ⟨rfl, b4⟩
      have hO4 := (hO3.on b4).wide (lo' := w0.heap.size) (hi' := w4.heap.size) (Nat.le_refl _) b4.size
      have k4 := below_on hkw3 b4
      have z4 := k4.size
      clear CQ hO3
      cases F
      · have hR : Hid (putR x its = its) := by rw [Hid, putR, ← hF.out]; rfl
        have CC := l13Queue_own p k c its w4 (by omega) hl (itemsIn_on h k4) (fun y hy => (li y hy).on k4) fit
        go_wp2_with (fail)
        refine CC.mono ?_
        rintro e w7 ⟨g7, c7, A, rfl, o7, eA, b7⟩
        have k7 := below_on k4 b7
        clear CC
        go_wp2_with (fail)
        (try simp only [Exit.inBlock, Exit.then])
        refine bodyPost_ret (v := .tuple #[.slice (some ⟨g7, 0, none⟩) k c7, .bool false]) ?_ rfl ⟨some ⟨g7, 0, none⟩, c7, A, ?_, ?_, ?_, k7⟩
        · simp only [results, Try.f12]
          go_simp
        · rw [hR.out, hl, ← hF.out]
        · rw [hR.out, hl]
          exact o7.wide z4 (Nat.le_refl _)
        · rw [hR.out]; exact eA
      · have hR : Hid (putR x its = putL x its) := by rw [Hid, putR, ← hF.out]; rfl
        go_wp2_with (fail)
        (try simp only [Exit.inBlock, Exit.then])
        refine bodyPost_ret (v := .tuple #[.slice (some ⟨g3, 0, none⟩) nL c3, .bool true]) ?_ rfl ⟨some ⟨g3, 0, none⟩, c3, D, ?_, ?_, ?_, k4⟩
        · simp only [results, Try.f12]
          go_simp
        · rw [hR.out, ← hjL.out, ← hF.out]
        · rw [hR.out, ← hjL.out]
          exact hO4.wide (by omega) (Nat.le_refl _)
        · rw [hR.out]; exact hnew

end Go.Proofs.Ytggbmpgpopenoaa
