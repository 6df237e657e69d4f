/-
  What the program's unlikePlaces and Quarter answer, whatever ints they are given: the four words of the quarter round at their places, where there are 16 and the places are unlike; else a copy. Condition: at most 2^20 ints.
  What the program's unlikePlaces and Quarter answer, whatever ints they are given: the four words of the quarter round at their places, where there are 16 and the places are unlike; else a copy. Condition: at most 2^20 ints.
  FnBlocks returns true for any code, and writes nothing that was there, in the program of doors; conditions: bytes all, the table as its text says.
-/
import Derived.Test.YtepbidaoloplbaaDoorParb15
import Derived.Test.YtepbidaoloplbaaDoorParb22
import Derived.Deep.WholeRow
import Derived.BigQuiet
import Derived.Test.YtepbidaoloplbaaDoorParb24
import Derived.Test.YtepbidaoloplbaaDoorParb11
import Derived.Test.YtepbidaoloplbaaDoorParb12
import Derived.Test.YtepbidaoloplbaaDoorParb14
import Derived.Test.YtepbidaoloplbaaDoorParb27
import Derived.Test.YtepbidaoloplbaaDoorParb25
import Derived.Test.YtepbidaoloplbaaDoorParb28
import Derived.Test.YtepbidaoloplbaaDoorParb17
import Derived.Test.YtepbidaoloplbaaDoorParb16
import Derived.Test.YtepbidaoloplbaaDoorParb18
import Derived.Test.YtepbidaoloplbaaDoorParb26
namespace Go.Proofs.YtepbidaoloplbaaDoor
open Go.RowKit

theorem quarterN_lt {a b c d : Nat} (hb : b < 4294967296) (hd : d < 4294967296) : (quarterN a b c d).1 < 4294967296 ∧ (quarterN a b c d).2.1 < 4294967296 ∧ (quarterN a b c d).2.2.1 < 4294967296 ∧ (quarterN a b c d).2.2.2 < 4294967296 := by
  simp only [quarterN]
  exact ⟨mod_lt32 _, turn_lt (xor_lt32 (turn_lt (xor_lt32 hb (mod_lt32 _)) (by decide)) (mod_lt32 _)) (by decide), mod_lt32 _, turn_lt (xor_lt32 (turn_lt (xor_lt32 hd (mod_lt32 _)) (by decide)) (mod_lt32 _)) (by decide)⟩
/-- Which of the 16 places are among these. -/
def takenL (l : List Int) : List Bool := (List.range 16).map fun (i : Nat) => decide ((i : Int) ∈ l)
theorem takenL_get (l : List Int) (i : Nat) (h : i < 16) : ((takenL l).map Value.bool)[i]? = some (.bool (decide ((i : Int) ∈ l))) := by
  simp [takenL, h]
theorem takenL_set (l : List Int) (i : Nat) (h : i < 16) : ((takenL l).map Value.bool).set i (.bool true) = (takenL (l ++ [(i : Int)])).map Value.bool := by
  apply List.ext_getElem?
  intro j
  by_cases hj : j < 16
  · rw [takenL_get _ _ hj]
    by_cases hij : i = j
    · subst hij
      rw [List.getElem?_set_self (by simpa [takenL] using h)]
      simp
    · rw [List.getElem?_set_ne hij, takenL_get _ _ hj]
      have : (j : Int) ≠ (i : Int) := by omega
      simp [this]
  · rw [List.getElem?_eq_none (by simp [takenL]; omega), List.getElem?_eq_none (by simp [takenL]; omega)]
/-- The places are of the 16, and unlike. -/
def unlike (l : List Int) : Prop := (∀ x ∈ l, 0 ≤ x ∧ x < 16) ∧ l.Nodup
instance (l : List Int) : Decidable (unlike l) := inferInstanceAs (Decidable (_ ∧ _))
theorem unlike_iff (a b c d : Int) : unlike [a, b, c, d] ↔ qOk 16 a b c d := by
  simp only [unlike, qOk, List.mem_cons, List.not_mem_nil, or_false, forall_eq_or_imp, forall_eq, List.nodup_cons, not_or, List.nodup_nil, not_false_eq_true, and_true, true_and]
  omega
theorem infoBools : (Tryd.prog.info? 73).map (fun i => (i.zero, i.size)) = some (some (.agg #[.bool false, .bool false, .bool false, .bool false, .bool false, .bool false, .bool false, .bool false, .bool false, .bool false, .bool false, .bool false, .bool false, .bool false, .bool false, .bool false]), 16) := by kernel_rfl
theorem index4 (a b c d : Int) (k : Nat) (hk : k < 4) (w : World) : (Instr.index 69 (.agg #[.int .i64 a, .int .i64 b, .int .i64 c, .int .i64 d]) (.int .i64 (k : Int))).run Tryd.prog w = .ok (.int .i64 ([a, b, c, d].getD k 0)) w := by
  have i0 : ∀ w : World, (Instr.index 69 (.agg #[.int .i64 a, .int .i64 b, .int .i64 c, .int .i64 d]) (.int .i64 0)).run Tryd.prog w = .ok (.int .i64 a) w := fun _ => by kernel_rfl
  have i1 : ∀ w : World, (Instr.index 69 (.agg #[.int .i64 a, .int .i64 b, .int .i64 c, .int .i64 d]) (.int .i64 1)).run Tryd.prog w = .ok (.int .i64 b) w := fun _ => by kernel_rfl
  have i2 : ∀ w : World, (Instr.index 69 (.agg #[.int .i64 a, .int .i64 b, .int .i64 c, .int .i64 d]) (.int .i64 2)).run Tryd.prog w = .ok (.int .i64 c) w := fun _ => by kernel_rfl
  have i3 : ∀ w : World, (Instr.index 69 (.agg #[.int .i64 a, .int .i64 b, .int .i64 c, .int .i64 d]) (.int .i64 3)).run Tryd.prog w = .ok (.int .i64 d) w := fun _ => by kernel_rfl
  have h4 : k = 0 ∨ k = 1 ∨ k = 2 ∨ k = 3 := by omega
  rcases h4 with rfl | rfl | rfl | rfl
  · exact i0 w
  · exact i1 w
  · exact i2 w
  · exact i3 w
theorem unlike_take {l : List Int} {k : Nat} (h : unlike (l.take (k + 1))) (hk : k < l.length) : 0 ≤ l.getD k 0 ∧ l.getD k 0 < 16 ∧ l.getD k 0 ∉ l.take k := by
  rw [List.take_succ_eq_append_getElem hk] at h
  rw [List.getD_eq_getElem?_getD, List.getElem?_eq_getElem hk]
  obtain ⟨h1, h2⟩ := h
  have := h1 l[k] (List.mem_append_right _ (List.mem_singleton.2 rfl))
  refine ⟨this.1, this.2, fun hm => ?_⟩
  rw [List.nodup_append] at h2
  exact h2.2.2 _ hm _ (List.mem_singleton.2 rfl) rfl
theorem unlike_more {l : List Int} {k : Nat} (h : unlike (l.take k)) (hk : k < l.length) (h0 : 0 ≤ l.getD k 0) (h1 : l.getD k 0 < 16) (h2 : l.getD k 0 ∉ l.take k) : unlike (l.take (k + 1)) := by
  rw [List.getD_eq_getElem?_getD, List.getElem?_eq_getElem hk] at h0 h1 h2
  rw [List.take_succ_eq_append_getElem hk]
  refine ⟨fun x hx => ?_, ?_⟩
  · rcases List.mem_append.1 hx with hx | hx
    · exact h.1 x hx
    · rw [List.mem_singleton.1 hx]; exact ⟨h0, h1⟩
  · rw [List.nodup_append]
    refine ⟨h.2, by simp, fun x hx y hy e => ?_⟩
    rw [List.mem_singleton.1 hy] at e
    exact h2 (e ▸ hx)
theorem unlike_prefix {l : List Int} {k : Nat} (h : unlike l) : unlike (l.take k) := ⟨fun x hx => h.1 x (List.mem_of_mem_take hx), h.2.sublist (List.take_sublist _ _)⟩

set_option maxRecDepth 100000 in
set_option maxHeartbeats 2400000 in
theorem unlikePlaces_any (a b c d : Int) (w : World) :
    Calls Tryd.prog 42 #[.int .i64 a, .int .i64 b, .int .i64 c, .int .i64 d] w fun e w' => e = .returned (.bool (decide (qOk 16 a b c d))) ∧ Below w.heap.size w w' := by
  have hz := (zero_of_info infoBools).1
  have hx := index4 a b c d
  obtain ⟨ps, hps⟩ : ∃ ps, ps = [a, b, c, d] := ⟨_, rfl⟩
  have hq : Hid (unlike ps ↔ qOk 16 a b c d) := by rw [hps]; exact unlike_iff a b c d
  have hl : ps.length = 4 := by rw [hps]; rfl
  rw [← hps] at hx
  replace hx : Hid (∀ k : Nat, k < 4 → ∀ w : World, (Instr.index 69 (.agg #[.int .i64 a, .int .i64 b, .int .i64 c, .int .i64 d]) (.int .i64 (k : Int))).run Tryd.prog w = .ok (.int .i64 (ps.getD k 0)) w) := hx
  clear hps
  go_enter Tryd.func42, Tryd.ntmps42
  go_wp2_with (fail)
  have hown0 : (w.alloc (.cells #[.bool false, .bool false, .bool false, .bool false, .bool false, .bool false, .bool false, .bool false, .bool false, .bool false, .bool false, .bool false, .bool false, .bool false, .bool false, .bool false] 73)).ownsRow w.heap.size 73 1 (.slice (some ⟨w.heap.size, 0, none⟩) 16 16) 16 ((takenL (ps.take 0)).map Value.bool) :=
    ⟨rfl, .inr ⟨w.heap.size, 16, _, rfl, Nat.le_refl _, heap_alloc_new w _, Nat.le_refl _, by unfold maxLen; omega, rfl, rfl⟩⟩
  go_loopw [17] (fun i wr => ∃ k : Nat, k ≤ 4 ∧ i = .int .i64 k ∧ unlike (ps.take k) ∧ wr.ownsRow w.heap.size 73 1 (.slice (some ⟨w.heap.size, 0, none⟩) 16 16) 16 ((takenL (ps.take k)).map Value.bool) ∧ Below w.heap.size w wr)
    (fun i _ => 4 - (intOf i).toNat)
  case atStart => exact ⟨0, by omega, rfl, ⟨by simp, by simp⟩, hown0, (Below.refl _ _).alloc (Nat.le_refl _) _⟩
  case round =>
    clear hown0 hz
    obtain ⟨k, hk, rfl, hun, hown, hbel⟩ := hrel
    by_cases hlt : k < 4
    · have hix := hx.out k hlt
      have hU : Hid (unlike (ps.take (k + 1)) → 0 ≤ ps.getD k 0 ∧ ps.getD k 0 < 16 ∧ ps.getD k 0 ∉ ps.take k) := fun h => unlike_take h (by omega)
      have hM : Hid (0 ≤ ps.getD k 0 → ps.getD k 0 < 16 → ps.getD k 0 ∉ ps.take k → unlike (ps.take (k + 1))) := fun h0 h1 h2 => unlike_more hun (by omega) h0 h1 h2
      have hT : ps.take (k + 1) = ps.take k ++ [ps.getD k 0] := by
        rw [List.take_succ_eq_append_getElem (by omega), List.getD_eq_getElem?_getD, List.getElem?_eq_getElem (by omega)]
        rfl
      replace hT : Hid (ps.take (k + 1) = ps.take k ++ [ps.getD k 0]) := hT
      generalize ps.getD k 0 = y at hix hU hM hT
      by_cases h0 : 0 ≤ y ∧ y < 16
      · obtain ⟨j, rfl⟩ : ∃ j : Nat, y = j := ⟨y.toNat, by omega⟩
        have hj : j < 16 := by omega
        have hj' : (j : Int) < 16 := h0.2
        have n0 : ¬ ((j : Int) < 0) := by omega
        have n1 : ¬ ((16 : Int) ≤ (j : Int)) := by omega
        have cj : wr.cell? ⟨w.heap.size, j, none⟩ = some (.bool (decide ((j : Int) ∈ ps.take k))) := by rw [hown.cellAt j (by omega), takenL_get _ _ hj]
        have hfr := hown.frozenAt j
        have st := hown.stored j (.bool true)
        rw [takenL_set _ _ hj, ← hT.out] at st
        have hb' := hbel.grown st.2 hbel.size (fun k hk => by cases hk; exact Nat.le_refl _)
        have st' := st.1
        clear st hown
        by_cases hm : (j : Int) ∈ ps.take k
        · have hno : ¬ qOk 16 a b c d := fun h => (hU.out (unlike_prefix (hq.out.2 h))).2.2 hm
          rw [decide_eq_true hm] at cj
          clear hU hM hm hun h0
          go_wp2
          go_ret
          exact ⟨by first | rfl | (rw [decide_eq_false hno]; rfl), hbel⟩
        · have hm' := hM.out h0.1 h0.2 hm
          rw [decide_eq_false hm] at cj
          clear hU hM hm hun h0
          go_wp2
          go_roundw
          case rel => exact ⟨k + 1, by omega, by go_num, hm', st', hb'⟩
          case measure => simp [intOf]; omega
      · have hno : ¬ qOk 16 a b c d := fun h => h0 ⟨(hU.out (unlike_prefix (hq.out.2 h))).1, (hU.out (unlike_prefix (hq.out.2 h))).2.1⟩
        by_cases h1 : y < 0
        · clear hU hM hun h0
          go_wp2
          go_ret
          exact ⟨by first | rfl | (rw [decide_eq_false hno]; rfl), hbel⟩
        · have h2 : (16 : Int) ≤ y := by omega
          clear hU hM hun h0
          go_wp2
          go_ret
          exact ⟨by first | rfl | (rw [decide_eq_false hno]; rfl), hbel⟩
    · have hk4 : k = 4 := by omega
      subst hk4
      have hfin : unlike ps := by rwa [List.take_of_length_le (by omega)] at hun
      have hyes : qOk 16 a b c d := hq.out.1 hfin
      clear hfin hun
      go_wp2
      go_ret
      exact ⟨by first | rfl | (rw [decide_eq_true hyes]; rfl), hbel⟩

set_option maxRecDepth 100000 in
set_option maxHeartbeats 2400000 in
theorem cloneI_any (p : Option Addr) (n cp : Nat) (L : List Int) (w : World) (hn : n ≤ 1048576) (hL : L.length = n) (h : IntsIn w p n L) :
    Calls Tryd.prog 41 #[.slice p n cp] w fun e w' => ∃ p' c', e = .returned (.slice p' n c') ∧ OwnI 3 w' w.heap.size w'.heap.size (.slice p' n c') n L ∧ Below w.heap.size w w' := by
  obtain ⟨i0, hi, hz0, hz1, hz2⟩ := info_parts infoInt
  have hown0 : (w.alloc (.cells #[] 3)).ownsRow w.heap.size 3 1 (.slice (some ⟨w.heap.size, 0, none⟩) 0 0) 0 (([] : List Int).map (Value.int .i64)) := World.ownsRow_made w #[] 0 (Nat.le_refl _) (by unfold maxLen; omega) rfl
  have hb0 : Below w.heap.size w (w.alloc (.cells #[] 3)) := (Below.refl _ _).alloc (Nat.le_refl _) _
  have h1 := in_belowI h hb0
  have hnil := fun w => Lib.run_eql_slice_nil (P := Tryd.prog) w 32 3 p n cp 0 0 Tryd.underlying32
  cases p with
  | none =>
    have hn0 : n = 0 := by
      rcases Nat.eq_zero_or_pos n with h0 | h0
      · exact h0
      · obtain ⟨b, o, hp, _⟩ := h h0
        cases hp
    subst hn0
    obtain rfl : L = [] := List.eq_nil_of_length_eq_zero hL
    simp only [Option.isNone_none] at hnil
    clear hown0 hb0 h1 h
    go_enter Tryd.func41, Tryd.ntmps41
    go_wp2_with (fail)
    go_ret
    exact ⟨none, 0, rfl, .of ⟨rfl, .inl ⟨rfl, rfl⟩⟩, Below.refl _ _⟩
  | some ad =>
    simp only [Option.isNone_some] at hnil
    clear h
    go_enter Tryd.func41, Tryd.ntmps41
    go_wp2_with (at_builtin; refine list_spreadIA hi hz0 hz1 hz2 (.tmp 5) (.tmp 6) 32 Tryd.underlying32 hown0 h1 hL (by omega) (by omega) (by simp) (by rfl) (by rfl) (by rfl) (by rfl) ?_; intro p1 cap1 w1 ho1 hb1; simp only [Nat.zero_add, List.nil_append] at ho1 ⊢)
    go_ret
    exact ⟨_, _, rfl, .of ho1, hb0.trans hb1⟩

set_option maxRecDepth 100000 in
set_option maxHeartbeats 4000000 in
theorem implQuarter_any (p : Option Addr) (n cp : Nat) (L : List Int) (a b c d : Int) (w : World) (hn : n ≤ 1048576) (hL : L.length = n) (h : IntsIn w p n L) :
    Calls Tryd.prog 17 #[.slice p n cp, .int .i64 a, .int .i64 b, .int .i64 c, .int .i64 d] w fun e w' => ∃ p' c', e = .returned (.slice p' n c') ∧ OwnI 3 w' w.heap.size w'.heap.size (.slice p' n c') n (quarterF L a b c d) ∧ Below w.heap.size w w' := by
  have CU := unlikePlaces_any a b c d
  have CC := cloneI_any p n cp L w hn hL h
  unfold quarterF
  rw [hL]
  by_cases t0 : n = 16
  rotate_left
  · have z0 : ((n : Int) != 16) = true := by simp; omega
    have hno : ¬ qOk n a b c d := fun h => t0 h.1
    rw [if_neg hno]
    clear hno h CU
    go_enter Tryd.func17, Tryd.ntmps17
    go_wp2_with (fail)
    refine CC.mono ?_
    rintro e w1 ⟨p1, c1, rfl, ho1, hb1⟩
    clear CC
    go_wp2_with (fail)
    go_ret
    exact ⟨_, _, rfl, ho1, hb1⟩
  subst t0
  by_cases hok : qOk 16 a b c d
  · rw [if_pos hok]
    rw [decide_eq_true hok] at CU
    obtain ⟨_, ha, hb, hc, hd, h1, h2, h3, h4, h5, h6⟩ := hok
    obtain ⟨ia, rfl⟩ : ∃ ia : Nat, a = ia := ⟨a.toNat, by omega⟩
    obtain ⟨ib, rfl⟩ : ∃ ib : Nat, b = ib := ⟨b.toNat, by omega⟩
    obtain ⟨ic, rfl⟩ : ∃ ic : Nat, c = ic := ⟨c.toNat, by omega⟩
    obtain ⟨id, rfl⟩ : ∃ id : Nat, d = id := ⟨d.toNat, by omega⟩
    simp only [Int.toNat_natCast]
    have a1 : (ia : Int) < 16 := by omega
    have a2 : (ib : Int) < 16 := by omega
    have a3 : (ic : Int) < 16 := by omega
    have a4 : (id : Int) < 16 := by omega
    have HD : Hid (ia ≠ ib ∧ ia ≠ ic ∧ ia ≠ id ∧ ib ≠ ic ∧ ib ≠ id ∧ ic ≠ id) := ⟨by omega, by omega, by omega, by omega, by omega, by omega⟩
    clear h ha hb hc hd h1 h2 h3 h4 h5 h6
    have hu := setQ_self (L := L) (a := ia) (b := ib) (c := ic) (d := id) (by omega) (by omega) (by omega) (by omega)
    obtain ⟨ua, hua⟩ : ∃ ua, ua = L.getD ia 0 := ⟨_, rfl⟩
    obtain ⟨ub, hub⟩ : ∃ ub, ub = L.getD ib 0 := ⟨_, rfl⟩
    obtain ⟨uc, huc⟩ : ∃ uc, uc = L.getD ic 0 := ⟨_, rfl⟩
    obtain ⟨ud, hud⟩ : ∃ ud, ud = L.getD id 0 := ⟨_, rfl⟩
    unfold quarterL
    rw [← hua, ← hub, ← huc, ← hud] at hu ⊢
    clear hua hub huc hud
    have CQ := fun w => quarter_same (wordN ua) (wordN ub) (wordN uc) (wordN ud) w (wordN_lt _) (wordN_lt _)
    have ea := (wordN_eq ua).symm
    have eb := (wordN_eq ub).symm
    have ec := (wordN_eq uc).symm
    have ed := (wordN_eq ud).symm
    simp only at CQ ⊢
    have lq := quarterN_lt (a := wordN ua) (b := wordN ub) (c := wordN uc) (d := wordN ud) (wordN_lt _) (wordN_lt _)
    generalize quarterN (wordN ua) (wordN ub) (wordN uc) (wordN ud) = q at CQ lq ⊢
    obtain ⟨qa, qb, qc, qd⟩ := q
    simp only at CQ lq ⊢
    obtain ⟨l1, l2, l3, l4⟩ := lq
    generalize wordN ua = na at CQ ea
    generalize wordN ub = nb at CQ eb
    generalize wordN uc = nc at CQ ec
    generalize wordN ud = nd at CQ ed
    have wa : IntKind.u32.wrap ua = (na : Int) := by rw [IntKind.wrap_u32]; exact ea
    have wb : IntKind.u32.wrap ub = (nb : Int) := by rw [IntKind.wrap_u32]; exact eb
    have wc : IntKind.u32.wrap uc = (nc : Int) := by rw [IntKind.wrap_u32]; exact ec
    have wd : IntKind.u32.wrap ud = (nd : Int) := by rw [IntKind.wrap_u32]; exact ed
    have va : IntKind.i64.wrap (qa : Int) = (qa : Int) := by rw [IntKind.wrap_i64]; omega
    have vb : IntKind.i64.wrap (qb : Int) = (qb : Int) := by rw [IntKind.wrap_i64]; omega
    have vc : IntKind.i64.wrap (qc : Int) = (qc : Int) := by rw [IntKind.wrap_i64]; omega
    have vd : IntKind.i64.wrap (qd : Int) = (qd : Int) := by rw [IntKind.wrap_i64]; omega
    go_enter Tryd.func17, Tryd.ntmps17
    go_wp2_with (fail)
    refine CC.mono ?_
    rintro e w1 ⟨p1, cp1, rfl, ho1, hb1⟩
    clear CC
    go_wp2_with (fail)
    refine (CU _).mono ?_
    rintro e w2 ⟨rfl, hb2⟩
    clear CU
    obtain ⟨g, hg⟩ : ∃ g, p1 = some ⟨g, 0, none⟩ := by
      rcases ho1.1.2 with ⟨_, h0⟩ | ⟨g, cap, cur, hv, _⟩
      · omega
      · simp only [Value.slice.injEq] at hv
        exact ⟨g, hv.1⟩
    subst hg
    have ho2 := owns_below ho1.1 hb2
    rw [← hu] at ho2
    have bel := below_on hb1 hb2
    have hcap := owns_cap16 ho2
    clear ho1 hb1 hb2
    have cells : ∀ X : World, X.ownsRow w.heap.size 3 1 (.slice (some ⟨g, 0, none⟩) 16 cp1) 16 ((setQ L ia ib ic id ua ub uc ud).map (Value.int .i64)) → X.cell? ⟨g, ia, none⟩ = some (.int .i64 ua) ∧ X.cell? ⟨g, ib, none⟩ = some (.int .i64 ub) ∧ X.cell? ⟨g, ic, none⟩ = some (.int .i64 uc) ∧ X.cell? ⟨g, id, none⟩ = some (.int .i64 ud) := by
      intro X hs
      exact ⟨by rw [hs.cellAt ia (by omega), List.getElem?_map, getQ_a (by omega) HD.out.1 HD.out.2.1 HD.out.2.2.1]; rfl, by rw [hs.cellAt ib (by omega), List.getElem?_map, getQ_b (by omega) HD.out.2.2.2.1 HD.out.2.2.2.2.1]; rfl, by rw [hs.cellAt ic (by omega), List.getElem?_map, getQ_c (by omega) HD.out.2.2.2.2.2]; rfl, by rw [hs.cellAt id (by omega), List.getElem?_map, getQ_d (by omega)]; rfl⟩
    obtain ⟨e1, e2, e3, e4⟩ := cells _ ho2
    go_wp2_with (fail)
    go_quiet ((go_at_call 43; exact Calls.quiet_of_same (CQ _)))
    obtain ⟨w5, hw5⟩ : ∃ w5, w5 = w2.drewN nq := ⟨_, rfl⟩
    rw [← hw5]
    have b5 : Below w2.heap.size w2 w5 := by rw [hw5]; exact below_drewN (Below.refl _ _) _
    replace ho2 := owns_below ho2 b5
    replace bel := below_on bel b5
    clear hw5 e1 e2 e3 e4 b5
    have z1 := ho2.stored ia (.int .i64 (qa : Int))
    rw [← List.map_set, setQ_a HD.out.1 HD.out.2.1 HD.out.2.2.1] at z1
    have z2 := z1.1.stored ib (.int .i64 (qb : Int))
    rw [← List.map_set, setQ_b HD.out.2.2.2.1 HD.out.2.2.2.2.1] at z2
    have z3 := z2.1.stored ic (.int .i64 (qc : Int))
    rw [← List.map_set, setQ_c HD.out.2.2.2.2.2] at z3
    have z4 := z3.1.stored id (.int .i64 (qd : Int))
    rw [← List.map_set, setQ_d] at z4
    have c1 : w5.cell? ⟨g, ia, none⟩ = some (.int .i64 ua) := by rw [ho2.cellAt ia (by omega), List.getElem?_map, getQ_a (by omega) HD.out.1 HD.out.2.1 HD.out.2.2.1]; rfl
    have c2 : (w5.setCell ⟨g, ia, none⟩ (.int .i64 (qa : Int))).cell? ⟨g, ib, none⟩ = some (.int .i64 ub) := by rw [z1.1.cellAt ib (by omega), List.getElem?_map, getQ_b (by omega) HD.out.2.2.2.1 HD.out.2.2.2.2.1]; rfl
    have c3 := z2.1.cellAt ic (by omega)
    rw [List.getElem?_map, getQ_c (by omega) HD.out.2.2.2.2.2] at c3
    have c4 := z3.1.cellAt id (by omega)
    rw [List.getElem?_map, getQ_d (by omega)] at c4
    simp only [Option.map_some] at c3 c4
    have f1 := ho2.frozenAt ia
    have f2 := z1.1.frozenAt ib
    have f3 := z2.1.frozenAt ic
    have f4 := z3.1.frozenAt id
    have HE : Hid (OwnI 3 _ w.heap.size _ (.slice (some ⟨g, 0, none⟩) 16 cp1) 16 _) := .of z4.1
    have hlo := (ho2.lt g rfl).1
    have HB : Hid (Below w.heap.size w _) := (((bel.grown z1.2 bel.size (fun k hk => by cases hk; exact hlo)).grown z2.2 (Nat.le_trans bel.size z1.2.size) (fun k hk => by cases hk; exact hlo)).grown z3.2 (Nat.le_trans bel.size (Nat.le_trans z1.2.size z2.2.size)) (fun k hk => by cases hk; exact hlo)).grown z4.2 (Nat.le_trans bel.size (Nat.le_trans z1.2.size (Nat.le_trans z2.2.size z3.2.size))) (fun k hk => by cases hk; exact hlo)
    clear z1 z2 z3 z4 ho2 bel hlo cells CQ
    go_wp2
    go_ret
    exact ⟨_, _, rfl, HE.out, HB.out⟩
  · rw [if_neg hok]
    rw [decide_eq_false hok] at CU
    clear h
    go_enter Tryd.func17, Tryd.ntmps17
    go_wp2_with (fail)
    refine CC.mono ?_
    rintro e w1 ⟨p1, c1, rfl, ho1, hb1⟩
    clear CC
    go_wp2_with (fail)
    refine (CU _).mono ?_
    rintro e w2 ⟨rfl, hb2⟩
    go_wp2_with (fail)
    go_ret
    exact ⟨_, _, rfl, .of (owns_below ho1.1 hb2), below_on hb1 hb2⟩

end Go.Proofs.YtepbidaoloplbaaDoor

namespace Go.Proofs.YtepbidaoloplbaaDoor.Alt
open Go.RowKit

theorem infoBools : (Altd.prog.info? 73).map (fun i => (i.zero, i.size)) = some (some (.agg #[.bool false, .bool false, .bool false, .bool false, .bool false, .bool false, .bool false, .bool false, .bool false, .bool false, .bool false, .bool false, .bool false, .bool false, .bool false, .bool false]), 16) := by kernel_rfl
theorem index4 (a b c d : Int) (k : Nat) (hk : k < 4) (w : World) : (Instr.index 69 (.agg #[.int .i64 a, .int .i64 b, .int .i64 c, .int .i64 d]) (.int .i64 (k : Int))).run Altd.prog w = .ok (.int .i64 ([a, b, c, d].getD k 0)) w := by
  have i0 : ∀ w : World, (Instr.index 69 (.agg #[.int .i64 a, .int .i64 b, .int .i64 c, .int .i64 d]) (.int .i64 0)).run Altd.prog w = .ok (.int .i64 a) w := fun _ => by kernel_rfl
  have i1 : ∀ w : World, (Instr.index 69 (.agg #[.int .i64 a, .int .i64 b, .int .i64 c, .int .i64 d]) (.int .i64 1)).run Altd.prog w = .ok (.int .i64 b) w := fun _ => by kernel_rfl
  have i2 : ∀ w : World, (Instr.index 69 (.agg #[.int .i64 a, .int .i64 b, .int .i64 c, .int .i64 d]) (.int .i64 2)).run Altd.prog w = .ok (.int .i64 c) w := fun _ => by kernel_rfl
  have i3 : ∀ w : World, (Instr.index 69 (.agg #[.int .i64 a, .int .i64 b, .int .i64 c, .int .i64 d]) (.int .i64 3)).run Altd.prog w = .ok (.int .i64 d) w := fun _ => by kernel_rfl
  have h4 : k = 0 ∨ k = 1 ∨ k = 2 ∨ k = 3 := by omega
  rcases h4 with rfl | rfl | rfl | rfl
  · exact i0 w
  · exact i1 w
  · exact i2 w
  · exact i3 w

set_option maxRecDepth 100000 in
set_option maxHeartbeats 2400000 in
theorem unlikePlaces_any (a b c d : Int) (w : World) :
    Calls Altd.prog 42 #[.int .i64 a, .int .i64 b, .int .i64 c, .int .i64 d] w fun e w' => e = .returned (.bool (decide (qOk 16 a b c d))) ∧ Below w.heap.size w w' := by
  have hz := (zero_of_info infoBools).1
  have hx := index4 a b c d
  obtain ⟨ps, hps⟩ : ∃ ps, ps = [a, b, c, d] := ⟨_, rfl⟩
  have hq : Hid (unlike ps ↔ qOk 16 a b c d) := by rw [hps]; exact unlike_iff a b c d
  have hl : ps.length = 4 := by rw [hps]; rfl
  rw [← hps] at hx
  replace hx : Hid (∀ k : Nat, k < 4 → ∀ w : World, (Instr.index 69 (.agg #[.int .i64 a, .int .i64 b, .int .i64 c, .int .i64 d]) (.int .i64 (k : Int))).run Altd.prog w = .ok (.int .i64 (ps.getD k 0)) w) := hx
  clear hps
  go_enter Altd.func42, Altd.ntmps42
  go_wp2_with (fail)
  have hown0 : (w.alloc (.cells #[.bool false, .bool false, .bool false, .bool false, .bool false, .bool false, .bool false, .bool false, .bool false, .bool false, .bool false, .bool false, .bool false, .bool false, .bool false, .bool false] 73)).ownsRow w.heap.size 73 1 (.slice (some ⟨w.heap.size, 0, none⟩) 16 16) 16 ((takenL (ps.take 0)).map Value.bool) :=
    ⟨rfl, .inr ⟨w.heap.size, 16, _, rfl, Nat.le_refl _, heap_alloc_new w _, Nat.le_refl _, by unfold maxLen; omega, rfl, rfl⟩⟩
  go_loopw [17] (fun i wr => ∃ k : Nat, k ≤ 4 ∧ i = .int .i64 k ∧ unlike (ps.take k) ∧ wr.ownsRow w.heap.size 73 1 (.slice (some ⟨w.heap.size, 0, none⟩) 16 16) 16 ((takenL (ps.take k)).map Value.bool) ∧ Below w.heap.size w wr)
    (fun i _ => 4 - (intOf i).toNat)
  case atStart => exact ⟨0, by omega, rfl, ⟨by simp, by simp⟩, hown0, (Below.refl _ _).alloc (Nat.le_refl _) _⟩
  case round =>
    clear hown0 hz
    obtain ⟨k, hk, rfl, hun, hown, hbel⟩ := hrel
    by_cases hlt : k < 4
    · have hix := hx.out k hlt
      have hU : Hid (unlike (ps.take (k + 1)) → 0 ≤ ps.getD k 0 ∧ ps.getD k 0 < 16 ∧ ps.getD k 0 ∉ ps.take k) := fun h => unlike_take h (by omega)
      have hM : Hid (0 ≤ ps.getD k 0 → ps.getD k 0 < 16 → ps.getD k 0 ∉ ps.take k → unlike (ps.take (k + 1))) := fun h0 h1 h2 => unlike_more hun (by omega) h0 h1 h2
      have hT : ps.take (k + 1) = ps.take k ++ [ps.getD k 0] := by
        rw [List.take_succ_eq_append_getElem (by omega), List.getD_eq_getElem?_getD, List.getElem?_eq_getElem (by omega)]
        rfl
      replace hT : Hid (ps.take (k + 1) = ps.take k ++ [ps.getD k 0]) := hT
      generalize ps.getD k 0 = y at hix hU hM hT
      by_cases h0 : 0 ≤ y ∧ y < 16
      · obtain ⟨j, rfl⟩ : ∃ j : Nat, y = j := ⟨y.toNat, by omega⟩
        have hj : j < 16 := by omega
        have hj' : (j : Int) < 16 := h0.2
        have n0 : ¬ ((j : Int) < 0) := by omega
        have n1 : ¬ ((16 : Int) ≤ (j : Int)) := by omega
        have cj : wr.cell? ⟨w.heap.size, j, none⟩ = some (.bool (decide ((j : Int) ∈ ps.take k))) := by rw [hown.cellAt j (by omega), takenL_get _ _ hj]
        have hfr := hown.frozenAt j
        have st := hown.stored j (.bool true)
        rw [takenL_set _ _ hj, ← hT.out] at st
        have hb' := hbel.grown st.2 hbel.size (fun k hk => by cases hk; exact Nat.le_refl _)
        have st' := st.1
        clear st hown
        by_cases hm : (j : Int) ∈ ps.take k
        · have hno : ¬ qOk 16 a b c d := fun h => (hU.out (unlike_prefix (hq.out.2 h))).2.2 hm
          rw [decide_eq_true hm] at cj
          clear hU hM hm hun h0
          go_wp2
          go_ret
          exact ⟨by first | rfl | (rw [decide_eq_false hno]; rfl), hbel⟩
        · have hm' := hM.out h0.1 h0.2 hm
          rw [decide_eq_false hm] at cj
          clear hU hM hm hun h0
          go_wp2
          go_roundw
          case rel => exact ⟨k + 1, by omega, by go_num, hm', st', hb'⟩
          case measure => simp [intOf]; omega
      · have hno : ¬ qOk 16 a b c d := fun h => h0 ⟨(hU.out (unlike_prefix (hq.out.2 h))).1, (hU.out (unlike_prefix (hq.out.2 h))).2.1⟩
        by_cases h1 : y < 0
        · clear hU hM hun h0
          go_wp2
          go_ret
          exact ⟨by first | rfl | (rw [decide_eq_false hno]; rfl), hbel⟩
        · have h2 : (16 : Int) ≤ y := by omega
          clear hU hM hun h0
          go_wp2
          go_ret
          exact ⟨by first | rfl | (rw [decide_eq_false hno]; rfl), hbel⟩
    · have hk4 : k = 4 := by omega
      subst hk4
      have hfin : unlike ps := by rwa [List.take_of_length_le (by omega)] at hun
      have hyes : qOk 16 a b c d := hq.out.1 hfin
      clear hfin hun
      go_wp2
      go_ret
      exact ⟨by first | rfl | (rw [decide_eq_true hyes]; rfl), hbel⟩

set_option maxRecDepth 100000 in
set_option maxHeartbeats 2400000 in
theorem cloneI_any (p : Option Addr) (n cp : Nat) (L : List Int) (w : World) (hn : n ≤ 1048576) (hL : L.length = n) (h : IntsIn w p n L) :
    Calls Altd.prog 41 #[.slice p n cp] w fun e w' => ∃ p' c', e = .returned (.slice p' n c') ∧ OwnI 3 w' w.heap.size w'.heap.size (.slice p' n c') n L ∧ Below w.heap.size w w' := by
  obtain ⟨i0, hi, hz0, hz1, hz2⟩ := info_parts infoInt
  have hown0 : (w.alloc (.cells #[] 3)).ownsRow w.heap.size 3 1 (.slice (some ⟨w.heap.size, 0, none⟩) 0 0) 0 (([] : List Int).map (Value.int .i64)) := World.ownsRow_made w #[] 0 (Nat.le_refl _) (by unfold maxLen; omega) rfl
  have hb0 : Below w.heap.size w (w.alloc (.cells #[] 3)) := (Below.refl _ _).alloc (Nat.le_refl _) _
  have h1 := in_belowI h hb0
  have hnil := fun w => Lib.run_eql_slice_nil (P := Altd.prog) w 32 3 p n cp 0 0 Altd.underlying32
  cases p with
  | none =>
    have hn0 : n = 0 := by
      rcases Nat.eq_zero_or_pos n with h0 | h0
      · exact h0
      · obtain ⟨b, o, hp, _⟩ := h h0
        cases hp
    subst hn0
    obtain rfl : L = [] := List.eq_nil_of_length_eq_zero hL
    simp only [Option.isNone_none] at hnil
    clear hown0 hb0 h1 h
    go_enter Altd.func41, Altd.ntmps41
    go_wp2_with (fail)
    go_ret
    exact ⟨none, 0, rfl, .of ⟨rfl, .inl ⟨rfl, rfl⟩⟩, Below.refl _ _⟩
  | some ad =>
    simp only [Option.isNone_some] at hnil
    clear h
    go_enter Altd.func41, Altd.ntmps41
    go_wp2_with (at_builtin; refine list_spreadIA hi hz0 hz1 hz2 (.tmp 5) (.tmp 6) 32 Altd.underlying32 hown0 h1 hL (by omega) (by omega) (by simp) (by rfl) (by rfl) (by rfl) (by rfl) ?_; intro p1 cap1 w1 ho1 hb1; simp only [Nat.zero_add, List.nil_append] at ho1 ⊢)
    go_ret
    exact ⟨_, _, rfl, .of ho1, hb0.trans hb1⟩

set_option maxRecDepth 100000 in
set_option maxHeartbeats 4000000 in
theorem implQuarter_any (p : Option Addr) (n cp : Nat) (L : List Int) (a b c d : Int) (w : World) (hn : n ≤ 1048576) (hL : L.length = n) (h : IntsIn w p n L) :
    Calls Altd.prog 17 #[.slice p n cp, .int .i64 a, .int .i64 b, .int .i64 c, .int .i64 d] w fun e w' => ∃ p' c', e = .returned (.slice p' n c') ∧ OwnI 3 w' w.heap.size w'.heap.size (.slice p' n c') n (quarterF L a b c d) ∧ Below w.heap.size w w' := by
  have CU := unlikePlaces_any a b c d
  have CC := cloneI_any p n cp L w hn hL h
  unfold quarterF
  rw [hL]
  by_cases t0 : n = 16
  rotate_left
  · have z0 : ((n : Int) != 16) = true := by simp; omega
    have hno : ¬ qOk n a b c d := fun h => t0 h.1
    rw [if_neg hno]
    clear hno h CU
    go_enter Altd.func17, Altd.ntmps17
    go_wp2_with (fail)
    refine CC.mono ?_
    rintro e w1 ⟨p1, c1, rfl, ho1, hb1⟩
    clear CC
    go_wp2_with (fail)
    go_ret
    exact ⟨_, _, rfl, ho1, hb1⟩
  subst t0
  by_cases hok : qOk 16 a b c d
  · rw [if_pos hok]
    rw [decide_eq_true hok] at CU
    obtain ⟨_, ha, hb, hc, hd, h1, h2, h3, h4, h5, h6⟩ := hok
    obtain ⟨ia, rfl⟩ : ∃ ia : Nat, a = ia := ⟨a.toNat, by omega⟩
    obtain ⟨ib, rfl⟩ : ∃ ib : Nat, b = ib := ⟨b.toNat, by omega⟩
    obtain ⟨ic, rfl⟩ : ∃ ic : Nat, c = ic := ⟨c.toNat, by omega⟩
    obtain ⟨id, rfl⟩ : ∃ id : Nat, d = id := ⟨d.toNat, by omega⟩
    simp only [Int.toNat_natCast]
    have a1 : (ia : Int) < 16 := by omega
    have a2 : (ib : Int) < 16 := by omega
    have a3 : (ic : Int) < 16 := by omega
    have a4 : (id : Int) < 16 := by omega
    have HD : Hid (ia ≠ ib ∧ ia ≠ ic ∧ ia ≠ id ∧ ib ≠ ic ∧ ib ≠ id ∧ ic ≠ id) := ⟨by omega, by omega, by omega, by omega, by omega, by omega⟩
    clear h ha hb hc hd h1 h2 h3 h4 h5 h6
    have hu := setQ_self (L := L) (a := ia) (b := ib) (c := ic) (d := id) (by omega) (by omega) (by omega) (by omega)
    obtain ⟨ua, hua⟩ : ∃ ua, ua = L.getD ia 0 := ⟨_, rfl⟩
    obtain ⟨ub, hub⟩ : ∃ ub, ub = L.getD ib 0 := ⟨_, rfl⟩
    obtain ⟨uc, huc⟩ : ∃ uc, uc = L.getD ic 0 := ⟨_, rfl⟩
    obtain ⟨ud, hud⟩ : ∃ ud, ud = L.getD id 0 := ⟨_, rfl⟩
    unfold quarterL
    rw [← hua, ← hub, ← huc, ← hud] at hu ⊢
    clear hua hub huc hud
    have CQ := fun w => quarter_same (wordN ua) (wordN ub) (wordN uc) (wordN ud) w (wordN_lt _) (wordN_lt _)
    have ea := (wordN_eq ua).symm
    have eb := (wordN_eq ub).symm
    have ec := (wordN_eq uc).symm
    have ed := (wordN_eq ud).symm
    simp only at CQ ⊢
    have lq := quarterN_lt (a := wordN ua) (b := wordN ub) (c := wordN uc) (d := wordN ud) (wordN_lt _) (wordN_lt _)
    generalize quarterN (wordN ua) (wordN ub) (wordN uc) (wordN ud) = q at CQ lq ⊢
    obtain ⟨qa, qb, qc, qd⟩ := q
    simp only at CQ lq ⊢
    obtain ⟨l1, l2, l3, l4⟩ := lq
    generalize wordN ua = na at CQ ea
    generalize wordN ub = nb at CQ eb
    generalize wordN uc = nc at CQ ec
    generalize wordN ud = nd at CQ ed
    have wa : IntKind.u32.wrap ua = (na : Int) := by rw [IntKind.wrap_u32]; exact ea
    have wb : IntKind.u32.wrap ub = (nb : Int) := by rw [IntKind.wrap_u32]; exact eb
    have wc : IntKind.u32.wrap uc = (nc : Int) := by rw [IntKind.wrap_u32]; exact ec
    have wd : IntKind.u32.wrap ud = (nd : Int) := by rw [IntKind.wrap_u32]; exact ed
    have va : IntKind.i64.wrap (qa : Int) = (qa : Int) := by rw [IntKind.wrap_i64]; omega
    have vb : IntKind.i64.wrap (qb : Int) = (qb : Int) := by rw [IntKind.wrap_i64]; omega
    have vc : IntKind.i64.wrap (qc : Int) = (qc : Int) := by rw [IntKind.wrap_i64]; omega
    have vd : IntKind.i64.wrap (qd : Int) = (qd : Int) := by rw [IntKind.wrap_i64]; omega
    go_enter Altd.func17, Altd.ntmps17
    go_wp2_with (fail)
    refine CC.mono ?_
    rintro e w1 ⟨p1, cp1, rfl, ho1, hb1⟩
    clear CC
    go_wp2_with (fail)
    refine (CU _).mono ?_
    rintro e w2 ⟨rfl, hb2⟩
    clear CU
    obtain ⟨g, hg⟩ : ∃ g, p1 = some ⟨g, 0, none⟩ := by
      rcases ho1.1.2 with ⟨_, h0⟩ | ⟨g, cap, cur, hv, _⟩
      · omega
      · simp only [Value.slice.injEq] at hv
        exact ⟨g, hv.1⟩
    subst hg
    have ho2 := owns_below ho1.1 hb2
    rw [← hu] at ho2
    have bel := below_on hb1 hb2
    have hcap := owns_cap16 ho2
    clear ho1 hb1 hb2
    have cells : ∀ X : World, X.ownsRow w.heap.size 3 1 (.slice (some ⟨g, 0, none⟩) 16 cp1) 16 ((setQ L ia ib ic id ua ub uc ud).map (Value.int .i64)) → X.cell? ⟨g, ia, none⟩ = some (.int .i64 ua) ∧ X.cell? ⟨g, ib, none⟩ = some (.int .i64 ub) ∧ X.cell? ⟨g, ic, none⟩ = some (.int .i64 uc) ∧ X.cell? ⟨g, id, none⟩ = some (.int .i64 ud) := by
      intro X hs
      exact ⟨by rw [hs.cellAt ia (by omega), List.getElem?_map, getQ_a (by omega) HD.out.1 HD.out.2.1 HD.out.2.2.1]; rfl, by rw [hs.cellAt ib (by omega), List.getElem?_map, getQ_b (by omega) HD.out.2.2.2.1 HD.out.2.2.2.2.1]; rfl, by rw [hs.cellAt ic (by omega), List.getElem?_map, getQ_c (by omega) HD.out.2.2.2.2.2]; rfl, by rw [hs.cellAt id (by omega), List.getElem?_map, getQ_d (by omega)]; rfl⟩
    obtain ⟨e1, e2, e3, e4⟩ := cells _ ho2
    go_wp2_with (fail)
    go_quiet ((go_at_call 43; exact Calls.quiet_of_same (CQ _)))
    obtain ⟨w5, hw5⟩ : ∃ w5, w5 = w2.drewN nq := ⟨_, rfl⟩
    rw [← hw5]
    have b5 : Below w2.heap.size w2 w5 := by rw [hw5]; exact below_drewN (Below.refl _ _) _
    replace ho2 := owns_below ho2 b5
    replace bel := below_on bel b5
    clear hw5 e1 e2 e3 e4 b5
    have z1 := ho2.stored ia (.int .i64 (qa : Int))
    rw [← List.map_set, setQ_a HD.out.1 HD.out.2.1 HD.out.2.2.1] at z1
    have z2 := z1.1.stored ib (.int .i64 (qb : Int))
    rw [← List.map_set, setQ_b HD.out.2.2.2.1 HD.out.2.2.2.2.1] at z2
    have z3 := z2.1.stored ic (.int .i64 (qc : Int))
    rw [← List.map_set, setQ_c HD.out.2.2.2.2.2] at z3
    have z4 := z3.1.stored id (.int .i64 (qd : Int))
    rw [← List.map_set, setQ_d] at z4
    have c1 : w5.cell? ⟨g, ia, none⟩ = some (.int .i64 ua) := by rw [ho2.cellAt ia (by omega), List.getElem?_map, getQ_a (by omega) HD.out.1 HD.out.2.1 HD.out.2.2.1]; rfl
    have c2 : (w5.setCell ⟨g, ia, none⟩ (.int .i64 (qa : Int))).cell? ⟨g, ib, none⟩ = some (.int .i64 ub) := by rw [z1.1.cellAt ib (by omega), List.getElem?_map, getQ_b (by omega) HD.out.2.2.2.1 HD.out.2.2.2.2.1]; rfl
    have c3 := z2.1.cellAt ic (by omega)
    rw [List.getElem?_map, getQ_c (by omega) HD.out.2.2.2.2.2] at c3
    have c4 := z3.1.cellAt id (by omega)
    rw [List.getElem?_map, getQ_d (by omega)] at c4
    simp only [Option.map_some] at c3 c4
    have f1 := ho2.frozenAt ia
    have f2 := z1.1.frozenAt ib
    have f3 := z2.1.frozenAt ic
    have f4 := z3.1.frozenAt id
    have HE : Hid (OwnI 3 _ w.heap.size _ (.slice (some ⟨g, 0, none⟩) 16 cp1) 16 _) := .of z4.1
    have hlo := (ho2.lt g rfl).1
    have HB : Hid (Below w.heap.size w _) := (((bel.grown z1.2 bel.size (fun k hk => by cases hk; exact hlo)).grown z2.2 (Nat.le_trans bel.size z1.2.size) (fun k hk => by cases hk; exact hlo)).grown z3.2 (Nat.le_trans bel.size (Nat.le_trans z1.2.size z2.2.size)) (fun k hk => by cases hk; exact hlo)).grown z4.2 (Nat.le_trans bel.size (Nat.le_trans z1.2.size (Nat.le_trans z2.2.size z3.2.size))) (fun k hk => by cases hk; exact hlo)
    clear z1 z2 z3 z4 ho2 bel hlo cells CQ
    go_wp2
    go_ret
    exact ⟨_, _, rfl, HE.out, HB.out⟩
  · rw [if_neg hok]
    rw [decide_eq_false hok] at CU
    clear h
    go_enter Altd.func17, Altd.ntmps17
    go_wp2_with (fail)
    refine CC.mono ?_
    rintro e w1 ⟨p1, c1, rfl, ho1, hb1⟩
    clear CC
    go_wp2_with (fail)
    refine (CU _).mono ?_
    rintro e w2 ⟨rfl, hb2⟩
    go_wp2_with (fail)
    go_ret
    exact ⟨_, _, rfl, .of (owns_below ho1.1 hb2), below_on hb1 hb2⟩

end Go.Proofs.YtepbidaoloplbaaDoor.Alt

namespace Go.Proofs.YtepbidaoloplbaaDoor.Alt
open Go.RowKit

theorem own_zero {w : World} {b : Nat} {e : TypeId} {p : Option Addr} {m c : Nat} {xs : List Int} (h : w.ownsRow b e 1 (.slice p (0 + m) c) (0 + m) ((([] : List Int) ++ xs).map (Value.int .u8))) : w.ownsRow b e 1 (.slice p m c) m (xs.map (Value.int .u8)) := by
  rw [Nat.zero_add, List.nil_append] at h
  exact h

set_option maxRecDepth 100000 in
set_option maxHeartbeats 16000000 in
theorem fnBlocks_small (p : Option Addr) (n c : Nat) (xs : List Int) (w : World) (hn : n ≤ 1048576) (hx : xs.length = n) (h : BytesIn w p n xs) (hb : ∀ x ∈ xs, 0 ≤ x ∧ x < 256) (hK : PlacesIs w) :
    Calls Altd.prog 4 #[.slice p n c] w fun e w' => e = .returned (.bool true) ∧ Below w.heap.size w w' := by
  go_enter Altd.func4, Altd.ntmps4
  go_wp2_with (fail)
  refine (big_small p n c _ hn).mono ?_
  rintro e w1 ⟨rfl, b1⟩
  have k1 : Below w.heap.size w w1 := below_on (Below.refl _ _) b1
  have z1 := b1.size
  go_wp2_with (fail)
  refine (dBlock p n c xs _ hn hx (in_below h k1) hb).mono ?_
  rintro e w2 ⟨ga, ka, ca, ya, cz, gb, kb, cb, yb, rfl, ⟨hka, hkb, hcz, hya, hyb⟩, ra, rb, b2⟩
  have k2 : Below w.heap.size w w2 := below_on k1 b2
  have z2 := b2.size
  go_wp2_with (fail)
  refine (implBlk_any (some ⟨ga, 0, none⟩) (some ⟨gb, 0, none⟩) ka kb ca cb cz ya yb _ ra.len rb.len ra.bytes rb.bytes hya hyb ra.cap rb.cap (places_below hK k2)).mono ?_
  rintro e w3 ⟨pr1, cr1, rfl, r1, b3⟩
  have k3 : Below w.heap.size w w3 := below_on k2 b3
  have z3 := b3.size
  replace ra := ra.on b3
  replace rb := rb.on b3
  obtain ⟨cy, ecy⟩ : ∃ cy : Int, cz + 1 = cy := ⟨_, rfl⟩
  have hcy : 0 ≤ cy ∧ cy ≤ 4294967297 := by omega
  go_wp2_with (fail)
  refine (implBlk_any (some ⟨ga, 0, none⟩) (some ⟨gb, 0, none⟩) ka kb ca cb cy ya yb _ ra.len rb.len ra.bytes rb.bytes hya hyb ra.cap rb.cap (places_below hK k3)).mono ?_
  rintro e w4 ⟨pr2, cr2, rfl, r2, b4⟩
  have k4 : Below w.heap.size w w4 := below_on k3 b4
  have z4 := b4.size
  replace ra := ra.on b4
  replace rb := rb.on b4
  replace r1 := r1.on b4
  have hmk : ∀ W : World, (Instr.makeSlice 22 (.int .i64 100) (.int .i64 100)).run Altd.prog W = .ok (.slice (some ⟨W.heap.size, 0, none⟩) 100 100) (W.alloc (.cells (madeCells #[.int .u8 0] 100) 5)) := makeB 100 (by omega)
  have hbz : Below w4.heap.size w4 (w4.alloc (.cells (madeCells #[.int .u8 0] 100) 5)) := (Below.refl _ _).alloc (Nat.le_refl _) _
  have rz0 := madeB_own w4 w4.heap.size 100 (Nat.le_refl _) (by omega)
  have kz := below_on k4 hbz
  generalize madeCells #[Value.int .u8 0] 100 = MC at hmk rz0 hbz kz
  replace ra := ra.on hbz
  replace rb := rb.on hbz
  replace r1 := r1.on hbz
  replace r2 := r2.on hbz
  obtain ⟨wz, hwz⟩ : ∃ wz, wz = w4.alloc (.cells MC 5) := ⟨_, rfl⟩
  have C1 := fun X (h1 : BytesIn X (some ⟨ga, 0, none⟩) ka ya) (h2 : BytesIn X (some ⟨gb, 0, none⟩) kb yb) (h3 : BytesIn X (some ⟨w4.heap.size, 0, none⟩) 100 (List.replicate 100 0)) => implStream_own (some ⟨ga, 0, none⟩) (some ⟨gb, 0, none⟩) (some ⟨w4.heap.size, 0, none⟩) ka kb 100 ca cb 100 cz ya yb (List.replicate 100 0) X (by omega) (by omega) (by omega) ra.cap rb.cap (by omega) (by omega) ra.len rb.len (by simp) h1 h2 h3 hya hyb (nought_byte 100)
  have hSl := strS_le ya cz yb (List.replicate 100 0)
  obtain ⟨SL, hSL⟩ : ∃ SL, SL = strS ya cz yb (List.replicate 100 0) := ⟨_, rfl⟩
  rw [← hSL] at C1 hSl
  replace hSL : Hid (SL = strS ya cz yb (List.replicate 100 0)) := hSL
  obtain ⟨ZL, hZL⟩ : ∃ ZL, ZL = List.replicate 100 (0 : Int) := ⟨_, rfl⟩
  rw [← hZL] at C1 rz0
  replace hZL : Hid (ZL = List.replicate 100 (0 : Int)) := hZL
  rw [← hwz] at rz0 kz
  rw [← hwz] at ra
  rw [← hwz] at rb
  rw [← hwz] at r1
  rw [← hwz] at r2
  have rz := Own.of rz0
  clear rz0 hbz
  replace hwz : Hid (w4.alloc (.cells MC 5) = wz) := hwz.symm
  go_wp2_with (rw [hwz.out])
  refine (C1 _ ra.bytes rb.bytes rz.bytes).mono ?_
  rintro e ws ⟨ps, cs, rfl, rs, bs⟩
  have ks := below_on kz bs
  clear C1 rz hZL hmk hwz
  replace ra := ra.on bs
  replace rb := rb.on bs
  replace r1 := r1.on bs
  replace r2 := r2.on bs
  clear b1 z1 b2 z2 b3 z3 b4 z4
  clear k1 k2 k3 k4 kz bs
  have hb' := in_below h ks
  go_wp2_with (fail)
  refine (dQuarter p n c xs _ hn hx hb' hb).mono ?_
  rintro e wq ⟨gq, kq, cq, yq, qa, qb, qc, qd, rfl, hkq, rq, bq⟩
  replace ks := below_on ks bq
  have rs' := rs.on bq
  replace ra := ra.on bq
  replace rb := rb.on bq
  replace r1 := r1.on bq
  replace r2 := r2.on bq
  clear rs bq hb' hx hb h
  have k60 := ks
  clear ks
  go_wp2_with (fail)
  refine (implQuarter_any (some ⟨gq, 0, none⟩) kq cq yq qa qb qc qd _ (by omega) rq.len rq.ints).mono ?_
  rintro e w61 ⟨pr61, cr61, rfl, r61, b61⟩
  have k61 : Below w.heap.size w w61 := below_on k60 b61
  have z61 := b61.size
  replace ra := ra.on b61
  replace rb := rb.on b61
  replace r1 := r1.on b61
  replace r2 := r2.on b61
  replace rs' := rs'.on b61
  replace rq := rq.on b61
  go_wp2_with (fail)
  refine (specQuarter_any (some ⟨gq, 0, none⟩) kq cq yq qa qb qc qd _ (by omega) rq.len rq.ints).mono ?_
  rintro e w62 ⟨pr62, cr62, rfl, r62, b62⟩
  have k62 : Below w.heap.size w w62 := below_on k61 b62
  have z62 := b62.size
  replace ra := ra.on b62
  replace rb := rb.on b62
  replace r1 := r1.on b62
  replace r2 := r2.on b62
  replace rs' := rs'.on b62
  replace rq := rq.on b62
  replace r61 := r61.on b62
  go_wp2_with (fail)
  refine (sameInts_any pr61 pr62 kq kq cr61 cr62 (quarterF yq qa qb qc qd) (quarterF yq qa qb qc qd) _ (by omega) r61.len r62.len r61.ints r62.ints).mono ?_
  rintro e w63 ⟨rfl, b63⟩
  have k63 : Below w.heap.size w w63 := below_on k62 b63
  have z63 := b63.size
  replace ra := ra.on b63
  replace rb := rb.on b63
  replace r1 := r1.on b63
  replace r2 := r2.on b63
  replace rs' := rs'.on b63
  replace rq := rq.on b63
  replace r61 := r61.on b63
  replace r62 := r62.on b63
  clear r61 r62 rq
  have hBl := blkN_le ka kb cz
  go_wp2_with (fail)
  refine (specBlk_any (some ⟨ga, 0, none⟩) (some ⟨gb, 0, none⟩) ka kb ca cb cz ya yb _ ra.len rb.len ra.bytes rb.bytes hya hyb).mono ?_
  rintro e w64 ⟨pr63, cr63, rfl, r63, b64⟩
  have k64 : Below w.heap.size w w64 := below_on k63 b64
  have z64 := b64.size
  replace ra := ra.on b64
  replace rb := rb.on b64
  replace r1 := r1.on b64
  replace r2 := r2.on b64
  replace rs' := rs'.on b64
  go_wp2_with (fail)
  refine (implSame_any pr1 pr63 (blkN ka kb cz) (blkN ka kb cz) cr1 cr63 (blkL ya cz yb) (blkL ya cz yb) _ r1.len r63.len r1.bytes r63.bytes).mono ?_
  rintro e w65 ⟨rfl, b65⟩
  have k65 : Below w.heap.size w w65 := below_on k64 b65
  have z65 := b65.size
  replace ra := ra.on b65
  replace rb := rb.on b65
  replace r1 := r1.on b65
  replace r2 := r2.on b65
  replace rs' := rs'.on b65
  replace r63 := r63.on b65
  clear r63
  have la := ra.len
  have lb := rb.len
  clear ra rb
  clear hBl
  by_cases h1 : blkOk ka kb cz
  · by_cases h2 : blkOk ka kb cy
    · have hg : GoodT ka kb 100 cz := ⟨h1.1, h1.2.1, by omega, h1.2.2.1, by have := h2.2.2.2; omega⟩
      have hgl : GoodT ya.length yb.length (List.replicate 100 (0 : Int)).length cz := by rw [la, lb, List.length_replicate]; exact hg
      have hS := strS_noughts hgl
      rw [ecy] at hS
      have e1 : blkN ka kb cz = 64 := if_pos h1
      have e2 : blkN ka kb cy = 64 := if_pos h2
      have e3 : blkL ya cz yb = blkB ya cz yb := if_pos (by rw [la, lb]; exact h1)
      have e4 : blkL ya cy yb = blkB ya cy yb := if_pos (by rw [la, lb]; exact h2)
      rw [hSL.out, hS] at rs' ⊢
      rw [e1, e3] at r1
      rw [e2, e4] at r2
      rw [e1, e2]
      have l1 := blkB_length ya cz yb
      have l2 := blkB_length ya cy yb
      have hlS : (blkB ya cz yb ++ (blkB ya cy yb).take 36).length = 100 := by simp [l1, l2]
      rw [hlS] at rs' ⊢
      generalize blkB ya cz yb = L1 at *
      generalize blkB ya cy yb = L2 at *
      clear hS e1 e2 e3 e4 hgl hg hSL
      obtain ⟨gY, hgY⟩ := owns_at r2.1 (by decide)
      subst hgY
      obtain ⟨i0, hi, hz0, hz1, hz2⟩ := info_parts infoByte
      have sl := slice_to (some ⟨gY, 0, none⟩) 64 cr2 36 (by have := r2.cap; omega) (fun h => by cases h)
      have sl' : ∀ W, (Instr.slice 22 (.slice (some ⟨gY, 0, none⟩) 64 cr2) none (some (.int .i64 36)) none).run Altd.prog W = .ok (.slice (some ⟨gY, 0, none⟩) 36 cr2) W := sl
      clear sl
      have lT : (L2.take 36).length = 36 := by simp [l2]
      go_wp2_with (fail)
      refine wp_region_noPanic ?_
      refine wp_region_T 9 (fun _ => True) (fun _ => True) (by kernel_rfl) ?_
      obtain ⟨wd, hwd⟩ : ∃ wd, wd = w65.drew := ⟨_, rfl⟩
      have bd : Below w65.heap.size w65 wd := by rw [hwd]; exact (Below.refl _ _).drew
      rw [← hwd]
      replace rs' := rs'.on bd
      replace r1 := r1.on bd
      replace r2 := r2.on bd
      have hE := below_on k65 bd
      clear hwd bd
      refine anyT_takeT (i := 0) (v := .slice ps 100 cs) rfl (by kernel_rfl) (by kernel_rfl) (by kernel_rfl) (by kernel_rfl) (fun _ _ _ h => h) (Or.inl ⟨by rfl, fun X _ => by (go_simp <;> omega)⟩) trivial (fun _ => trivial) ?_
      simp only [Act.put, List.getElem_toArray, List.getElem_cons_zero, List.setIfInBounds_toArray, List.set_cons_zero, List.set_cons_succ]
      refine anyT_takeT (i := 2) (v := .slice pr1 64 cr1) rfl (by kernel_rfl) (by kernel_rfl) (by kernel_rfl) (by kernel_rfl) (fun _ _ _ h => h) (Or.inl ⟨by rfl, fun X _ => by (go_simp <;> omega)⟩) trivial (fun _ => trivial) ?_
      simp only [Act.put, List.getElem_toArray, List.getElem_cons_zero, List.getElem_cons_succ, List.setIfInBounds_toArray, List.set_cons_zero, List.set_cons_succ]
      refine anyT_takeT (i := 4) (v := .slice (some ⟨gY, 0, none⟩) 64 cr2) rfl (by kernel_rfl) (by kernel_rfl) (by kernel_rfl) (by kernel_rfl) (fun _ _ _ h => h) (Or.inl ⟨by rfl, fun X _ => by (go_simp <;> omega)⟩) trivial (fun _ => trivial) ?_
      simp only [Act.put, List.getElem_toArray, List.getElem_cons_zero, List.getElem_cons_succ, List.setIfInBounds_toArray, List.set_cons_zero, List.set_cons_succ]
      refine anyT_takeT (i := 5) (v := .slice (some ⟨gY, 0, none⟩) 36 cr2) rfl (by kernel_rfl) (by kernel_rfl) (by kernel_rfl) (by kernel_rfl) (fun _ _ _ h => h) (Or.inl ⟨by rfl, fun X _ => by (go_simp <;> omega)⟩) trivial (fun _ => trivial) ?_
      simp only [Act.put, List.getElem_toArray, List.getElem_cons_zero, List.getElem_cons_succ, List.setIfInBounds_toArray, List.set_cons_zero, List.set_cons_succ]
      have hb0 : Below wd.heap.size wd (wd.alloc (.cells #[] 5)) := (Below.refl _ _).alloc (Nat.le_refl _) _
      have ho0 : (wd.alloc (.cells #[] 5)).ownsRow wd.heap.size 5 1 (.slice (some ⟨wd.heap.size, 0, none⟩) 0 0) 0 (([] : List Int).map (Value.int .u8)) := World.ownsRow_made wd #[] 0 (Nat.le_refl _) (by unfold maxLen; omega) rfl
      refine anyT_one (i := 1) (by kernel_rfl) rfl (fun K hK => ?_)
      go_simp
      refine hK.out _ _ trivial (fun _ => trivial) ?_
      clear hK K
      have hX0 := (r1.on hb0).bytes
      refine anyT_one (i := 3) (by kernel_rfl) rfl (fun K hK => ?_)
      refine step_spread hi hz0 hz1 hz2 (.tmp 81) (.tmp 82) 22 Altd.underlying22 (base := wd.heap.size) ho0 hX0 l1 (by decide) (by omega) (by omega) (by simp) (by rfl) (by rfl) (by rfl) (by rfl) ?_
      intro g3 c3 w3 ho3 hg3 hb3
      replace ho3 := own_zero ho3
      simp only [Nat.zero_add]
      refine hK.out _ _ trivial (fun _ => trivial) ?_
      clear hK K
      simp only [Act.put, List.getElem_toArray, List.getElem_cons_zero, List.getElem_cons_succ, List.setIfInBounds_toArray, List.set_cons_zero, List.set_cons_succ]
      have kb3 := hb0.trans hb3
      have hY0 := in_prefix (r2.on kb3).bytes (show 36 ≤ 64 by omega)
      have hs3 : wd.heap.size ≤ w3.heap.size := kb3.size
      refine anyT_one (i := 6) (by kernel_rfl) rfl (fun K hK => ?_)
      refine step_spread hi hz0 hz1 hz2 (.tmp 83) (.tmp 85) 22 Altd.underlying22 (base := wd.heap.size) ho3 hY0 lT (by decide) (by omega) (by omega) hs3 (by rfl) (by rfl) (by rfl) (by rfl) ?_
      intro g4 c4 w4 ho4 hg4 hb4
      refine hK.out _ _ trivial (fun _ => trivial) ?_
      clear hK K
      simp only [Act.put, List.getElem_toArray, List.getElem_cons_zero, List.getElem_cons_succ, List.setIfInBounds_toArray, List.set_cons_zero, List.set_cons_succ]
      have kb4 := kb3.trans hb4
      have r4 : Own 5 w4 wd.heap.size w4.heap.size (.slice (some ⟨g4, 0, none⟩) 100 c4) 100 (L1 ++ L2.take 36) := .of ho4
      replace rs' := rs'.on kb4
      replace hE := below_on hE kb4
      refine anyT_one (i := 7) (by kernel_rfl) rfl (fun K hK => ?_)
      go_simp
      refine (implSame_any ps (some ⟨g4, 0, none⟩) 100 100 cs c4 (L1 ++ L2.take 36) (L1 ++ L2.take 36) _ hlS hlS rs'.bytes r4.bytes).mono ?_
      rintro e w5 ⟨rfl, b5⟩
      go_simp
      refine hK.out _ _ trivial (fun _ => trivial) ?_
      clear hK K
      refine anyT_takeT (i := 8) (v := .bool true) rfl (by kernel_rfl) (by kernel_rfl) (by kernel_rfl) (by kernel_rfl) (fun _ _ _ h => h) (Or.inl ⟨by rfl, fun X _ => by (go_simp <;> omega)⟩) trivial (fun _ => trivial) ?_
      simp only [Act.put, List.getElem_toArray, List.getElem_cons_zero, List.getElem_cons_succ, List.setIfInBounds_toArray, List.set_cons_zero, List.set_cons_succ]
      refine anyT_done (by kernel_rfl) ?_ _
      refine NoPanic.normal ?_
      go_wp2_with (fail)
      go_ret
      exact ⟨rfl, below_on hE b5⟩
    · have hno : SL = [] := by
        rw [hSL.out]
        refine good_no fun hg => ?_
        rw [la, lb, List.length_replicate] at hg
        exact h2 ⟨hg.1, hg.2.1, by have := hg.2.2.2.1; omega, by have := hg.2.2.2.2; omega⟩
      rw [hno]
      have e1 : blkN ka kb cy = 0 := if_neg h2
      have e0 : blkN ka kb cz = 64 := if_pos h1
      rw [e0, e1]
      clear rs' r1 r2 hno hSL e1
      go_wp2_with (fail)
      go_ret
      exact ⟨rfl, k65⟩
  · have hno : SL = [] := by
      rw [hSL.out]
      refine good_no fun hg => ?_
      rw [la, lb, List.length_replicate] at hg
      exact h1 ⟨hg.1, hg.2.1, by have := hg.2.2.2.1; omega, by have := hg.2.2.2.2; omega⟩
    rw [hno]
    have e1 : blkN ka kb cz = 0 := if_neg h1
    rw [e1]
    clear rs' r1 r2 hno hSL e1
    go_wp2_with (fail)
    go_ret
    exact ⟨rfl, k65⟩

theorem fnBlocks_law (p : Option Addr) (n c : Nat) (xs : List Int) (w : World) (hx : xs.length = n) (h : BytesIn w p n xs) (hb : ∀ x ∈ xs, 0 ≤ x ∧ x < 256) (hK : PlacesIs w) :
    Calls Altd.prog 4 #[.slice p n c] w fun e w' => e = .returned (.bool true) ∧ Below w.heap.size w w' := by
  by_cases hn : n ≤ 1048576
  · exact fnBlocks_small p n c xs w hn hx h hb hK
  · clear hx h hb hK
    have C := fun X => big_great p n c X hn
    go_enter Altd.func4, Altd.ntmps4
    go_wp2_with (fail)
    refine (C _).mono ?_
    rintro e w1 ⟨rfl, b1⟩
    go_wp2
    go_ret
    exact ⟨rfl, b1⟩

end Go.Proofs.YtepbidaoloplbaaDoor.Alt
