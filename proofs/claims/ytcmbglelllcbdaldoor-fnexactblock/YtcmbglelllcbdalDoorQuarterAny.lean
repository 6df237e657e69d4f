/-
  What the specification's Quarter answers at whatever arguments: the quarter round where there are 16 and the places are unlike; else a copy. Condition: at most 2^20 ints.
-/
import Derived.Test.YtcmbglelllcbdalDoorSpecQuarter
import Derived.Test.YtcmbglelllcbdalDoorConcat
namespace Go.Proofs.YtcmbglelllcbdalDoor
open Go.RowKit

def qOk (n : Nat) (a b c d : Int) : Prop := n = 16 ∧ (0 ≤ a ∧ a ≤ 15) ∧ (0 ≤ b ∧ b ≤ 15) ∧ (0 ≤ c ∧ c ≤ 15) ∧ (0 ≤ d ∧ d ≤ 15) ∧ a ≠ b ∧ a ≠ c ∧ a ≠ d ∧ b ≠ c ∧ b ≠ d ∧ c ≠ d
instance (n : Nat) (a b c d : Int) : Decidable (qOk n a b c d) := inferInstanceAs (Decidable (_ ∧ _ ∧ _ ∧ _ ∧ _ ∧ _ ∧ _ ∧ _ ∧ _ ∧ _ ∧ _))
def quarterF (L : List Int) (a b c d : Int) : List Int := if qOk L.length a b c d then quarterL L a.toNat b.toNat c.toNat d.toNat else L
section
variable {P : Program} {e : TypeId} {i : TypeInfo} {base n m c : Nat} {wr : World} {q p : Option Addr} {cq : Nat} {xs ys : List Int}
/-- 'append(out, x...)' of ints that lie somewhere, none of them too. -/
theorem list_spreadIA {ops : Array Oper} {rest : List Oper} {o : Oper} {a : Act} {Q : Exit → Act → World → Prop} (hi : P.info? e = some i) (hz : i.zero = some (.int .i64 0)) (hsize : i.size = 1) (hby : i.bytes = 8)
    (s y : Operand) (t : TypeId) (ht : P.underlying t = some (.slice e)) (hown : wr.ownsRow base e 1 (.slice q n cq) n (xs.map (Value.int .i64))) (hin : IntsIn wr p m ys) (hl : ys.length = m) (hm' : m ≤ 1099511627776)
    (hn : n ≤ 1099511627776) (hbase : base ≤ wr.heap.size)
    (hgd : o.guard = none) (ho : o.op = .call { callee := .builtin .append, args := #[s, y], argTypes := #[t, t] }) (hs : a.eval s = .slice q n cq) (hy : a.eval y = .slice p m c)
    (h : ∀ p' cap w', w'.ownsRow base e 1 (.slice p' (n + m) cap) (n + m) ((xs ++ ys).map (Value.int .i64)) → Below base wr w' → wpList P ops Q rest (a.put o.dst (.slice p' (n + m) cap)) w') :
    wpList P ops Q (o :: rest) a wr := by
  rcases Nat.eq_zero_or_pos m with h0 | h0
  · subst h0
    obtain rfl : ys = [] := List.eq_nil_of_length_eq_zero hl
    simp only [List.append_nil, Nat.add_zero] at h
    exact Lib.wpList_append_run wr hgd s y t t ho _ _ hs hy _ _ (append_empty wr t o.type e i ht hi q n cq p c (owns_cap hown)) (h _ _ _ hown (Below.refl _ _))
  · exact list_spreadI hi hz hsize hby s y t ht hown hin hl h0 hm' hn hbase hgd ho hs hy fun g cap w' h1 h2 => h _ _ _ h1 h2
end

set_option maxRecDepth 100000 in
set_option maxHeartbeats 4000000 in
theorem specQuarter_no (p : Option Addr) (n cp : Nat) (L : List Int) (a b c d : Int) (w : World) (hn : n ≤ 1048576) (hL : L.length = n) (h : IntsIn w p n L) (hno : ¬ qOk n a b c d) :
    Calls Tryd.prog 47 #[.slice p n cp, .int .i64 a, .int .i64 b, .int .i64 c, .int .i64 d] w fun e w' => ∃ p' c', e = .returned (.slice p' n c') ∧ OwnI 3 w' w.heap.size w'.heap.size (.slice p' n c') n L ∧ Below w.heap.size w w' := by
  obtain ⟨i0, hi, hz0, hz1, hz2⟩ := info_parts infoInt
  have CY : ∀ (k : Int) (X : World), 0 ≤ k ∧ k ≤ 15 → Calls Tryd.prog 24 #[.int .i64 k, .int .i64 0, .int .i64 15] X fun e w' => e = .returned (.bool true) ∧ w' = X := fun k X hk => by
    have := l1In_is k 0 15 X
    rw [decide_eq_true hk] at this
    exact this
  have CN : ∀ (k : Int) (X : World), ¬ (0 ≤ k ∧ k ≤ 15) → Calls Tryd.prog 24 #[.int .i64 k, .int .i64 0, .int .i64 15] X fun e w' => e = .returned (.bool false) ∧ w' = X := fun k X hk => by
    have := l1In_is k 0 15 X
    rw [decide_eq_false hk] at this
    exact this
  have hown0 : (w.alloc (.cells #[] 3)).ownsRow w.heap.size 3 1 (.slice (some ⟨w.heap.size, 0, none⟩) 0 0) 0 (([] : List Int).map (Value.int .i64)) := World.ownsRow_made w #[] 0 (Nat.le_refl _) (by unfold maxLen; omega) rfl
  have hb0 : Below w.heap.size w (w.alloc (.cells #[] 3)) := (Below.refl _ _).alloc (Nat.le_refl _) _
  have h1 := in_belowI h hb0
  unfold qOk at hno
  by_cases t0 : n = 16
  rotate_left
  · have z0 : ((n : Int) != 16) = true := by simp; omega
    clear hno h
    go_enter Tryd.func47, Tryd.ntmps47
    go_wp2_with (at_builtin; refine list_spreadIA hi hz0 hz1 hz2 (.tmp 12) (.tmp 13) 48 Tryd.underlying48 hown0 h1 hL (by omega) (by omega) (by simp) (by rfl) (by rfl) (by rfl) (by rfl) ?_; intro p1 cap1 w1 ho1 hb1; simp only [Nat.zero_add, List.nil_append] at ho1 ⊢)
    go_ret
    exact ⟨_, _, rfl, .of ho1, hb0.trans hb1⟩
  by_cases t1 : 0 ≤ a ∧ a ≤ 15
  rotate_left
  · subst t0
    clear hno h
    go_enter Tryd.func47, Tryd.ntmps47
    go_wp2_with (at_builtin; refine list_spreadIA hi hz0 hz1 hz2 (.tmp 12) (.tmp 13) 48 Tryd.underlying48 hown0 h1 hL (by omega) (by omega) (by simp) (by rfl) (by rfl) (by rfl) (by rfl) ?_; intro p1 cap1 w1 ho1 hb1; simp only [Nat.zero_add, List.nil_append] at ho1 ⊢)
    refine (CN a _ t1).mono ?_
    rintro e w2 ⟨rfl, rfl⟩
    go_wp2_with (fail)
    go_ret
    exact ⟨_, _, rfl, .of ho1, hb0.trans hb1⟩
  by_cases t2 : 0 ≤ b ∧ b ≤ 15
  rotate_left
  · subst t0
    clear hno h
    go_enter Tryd.func47, Tryd.ntmps47
    go_wp2_with (at_builtin; refine list_spreadIA hi hz0 hz1 hz2 (.tmp 12) (.tmp 13) 48 Tryd.underlying48 hown0 h1 hL (by omega) (by omega) (by simp) (by rfl) (by rfl) (by rfl) (by rfl) ?_; intro p1 cap1 w1 ho1 hb1; simp only [Nat.zero_add, List.nil_append] at ho1 ⊢)
    refine (CY a _ t1).mono ?_
    rintro e w2 ⟨rfl, rfl⟩
    go_wp2_with (fail)
    refine (CN b _ t2).mono ?_
    rintro e w2 ⟨rfl, rfl⟩
    go_wp2_with (fail)
    go_ret
    exact ⟨_, _, rfl, .of ho1, hb0.trans hb1⟩
  by_cases t3 : 0 ≤ c ∧ c ≤ 15
  rotate_left
  · subst t0
    clear hno h
    go_enter Tryd.func47, Tryd.ntmps47
    go_wp2_with (at_builtin; refine list_spreadIA hi hz0 hz1 hz2 (.tmp 12) (.tmp 13) 48 Tryd.underlying48 hown0 h1 hL (by omega) (by omega) (by simp) (by rfl) (by rfl) (by rfl) (by rfl) ?_; intro p1 cap1 w1 ho1 hb1; simp only [Nat.zero_add, List.nil_append] at ho1 ⊢)
    refine (CY a _ t1).mono ?_
    rintro e w2 ⟨rfl, rfl⟩
    go_wp2_with (fail)
    refine (CY b _ t2).mono ?_
    rintro e w2 ⟨rfl, rfl⟩
    go_wp2_with (fail)
    refine (CN c _ t3).mono ?_
    rintro e w2 ⟨rfl, rfl⟩
    go_wp2_with (fail)
    go_ret
    exact ⟨_, _, rfl, .of ho1, hb0.trans hb1⟩
  by_cases t4 : 0 ≤ d ∧ d ≤ 15
  rotate_left
  · subst t0
    clear hno h
    go_enter Tryd.func47, Tryd.ntmps47
    go_wp2_with (at_builtin; refine list_spreadIA hi hz0 hz1 hz2 (.tmp 12) (.tmp 13) 48 Tryd.underlying48 hown0 h1 hL (by omega) (by omega) (by simp) (by rfl) (by rfl) (by rfl) (by rfl) ?_; intro p1 cap1 w1 ho1 hb1; simp only [Nat.zero_add, List.nil_append] at ho1 ⊢)
    refine (CY a _ t1).mono ?_
    rintro e w2 ⟨rfl, rfl⟩
    go_wp2_with (fail)
    refine (CY b _ t2).mono ?_
    rintro e w2 ⟨rfl, rfl⟩
    go_wp2_with (fail)
    refine (CY c _ t3).mono ?_
    rintro e w2 ⟨rfl, rfl⟩
    go_wp2_with (fail)
    refine (CN d _ t4).mono ?_
    rintro e w2 ⟨rfl, rfl⟩
    go_wp2_with (fail)
    go_ret
    exact ⟨_, _, rfl, .of ho1, hb0.trans hb1⟩
  by_cases t5 : a ≠ b
  rotate_left
  · subst t0
    have z5 : (a == b) = true := by simpa using t5
    clear hno h
    go_enter Tryd.func47, Tryd.ntmps47
    go_wp2_with (at_builtin; refine list_spreadIA hi hz0 hz1 hz2 (.tmp 12) (.tmp 13) 48 Tryd.underlying48 hown0 h1 hL (by omega) (by omega) (by simp) (by rfl) (by rfl) (by rfl) (by rfl) ?_; intro p1 cap1 w1 ho1 hb1; simp only [Nat.zero_add, List.nil_append] at ho1 ⊢)
    refine (CY a _ t1).mono ?_
    rintro e w2 ⟨rfl, rfl⟩
    go_wp2_with (fail)
    refine (CY b _ t2).mono ?_
    rintro e w2 ⟨rfl, rfl⟩
    go_wp2_with (fail)
    refine (CY c _ t3).mono ?_
    rintro e w2 ⟨rfl, rfl⟩
    go_wp2_with (fail)
    refine (CY d _ t4).mono ?_
    rintro e w2 ⟨rfl, rfl⟩
    go_wp2_with (fail)
    go_ret
    exact ⟨_, _, rfl, .of ho1, hb0.trans hb1⟩
  by_cases t6 : a ≠ c
  rotate_left
  · subst t0
    have z5 : (a == b) = false := beq_eq_false_iff_ne.2 t5
    have z6 : (a == c) = true := by simpa using t6
    clear hno h
    go_enter Tryd.func47, Tryd.ntmps47
    go_wp2_with (at_builtin; refine list_spreadIA hi hz0 hz1 hz2 (.tmp 12) (.tmp 13) 48 Tryd.underlying48 hown0 h1 hL (by omega) (by omega) (by simp) (by rfl) (by rfl) (by rfl) (by rfl) ?_; intro p1 cap1 w1 ho1 hb1; simp only [Nat.zero_add, List.nil_append] at ho1 ⊢)
    refine (CY a _ t1).mono ?_
    rintro e w2 ⟨rfl, rfl⟩
    go_wp2_with (fail)
    refine (CY b _ t2).mono ?_
    rintro e w2 ⟨rfl, rfl⟩
    go_wp2_with (fail)
    refine (CY c _ t3).mono ?_
    rintro e w2 ⟨rfl, rfl⟩
    go_wp2_with (fail)
    refine (CY d _ t4).mono ?_
    rintro e w2 ⟨rfl, rfl⟩
    go_wp2_with (fail)
    go_ret
    exact ⟨_, _, rfl, .of ho1, hb0.trans hb1⟩
  by_cases t7 : a ≠ d
  rotate_left
  · subst t0
    have z5 : (a == b) = false := beq_eq_false_iff_ne.2 t5
    have z6 : (a == c) = false := beq_eq_false_iff_ne.2 t6
    have z7 : (a == d) = true := by simpa using t7
    clear hno h
    go_enter Tryd.func47, Tryd.ntmps47
    go_wp2_with (at_builtin; refine list_spreadIA hi hz0 hz1 hz2 (.tmp 12) (.tmp 13) 48 Tryd.underlying48 hown0 h1 hL (by omega) (by omega) (by simp) (by rfl) (by rfl) (by rfl) (by rfl) ?_; intro p1 cap1 w1 ho1 hb1; simp only [Nat.zero_add, List.nil_append] at ho1 ⊢)
    refine (CY a _ t1).mono ?_
    rintro e w2 ⟨rfl, rfl⟩
    go_wp2_with (fail)
    refine (CY b _ t2).mono ?_
    rintro e w2 ⟨rfl, rfl⟩
    go_wp2_with (fail)
    refine (CY c _ t3).mono ?_
    rintro e w2 ⟨rfl, rfl⟩
    go_wp2_with (fail)
    refine (CY d _ t4).mono ?_
    rintro e w2 ⟨rfl, rfl⟩
    go_wp2_with (fail)
    go_ret
    exact ⟨_, _, rfl, .of ho1, hb0.trans hb1⟩
  by_cases t8 : b ≠ c
  rotate_left
  · subst t0
    have z5 : (a == b) = false := beq_eq_false_iff_ne.2 t5
    have z6 : (a == c) = false := beq_eq_false_iff_ne.2 t6
    have z7 : (a == d) = false := beq_eq_false_iff_ne.2 t7
    have z8 : (b == c) = true := by simpa using t8
    clear hno h
    go_enter Tryd.func47, Tryd.ntmps47
    go_wp2_with (at_builtin; refine list_spreadIA hi hz0 hz1 hz2 (.tmp 12) (.tmp 13) 48 Tryd.underlying48 hown0 h1 hL (by omega) (by omega) (by simp) (by rfl) (by rfl) (by rfl) (by rfl) ?_; intro p1 cap1 w1 ho1 hb1; simp only [Nat.zero_add, List.nil_append] at ho1 ⊢)
    refine (CY a _ t1).mono ?_
    rintro e w2 ⟨rfl, rfl⟩
    go_wp2_with (fail)
    refine (CY b _ t2).mono ?_
    rintro e w2 ⟨rfl, rfl⟩
    go_wp2_with (fail)
    refine (CY c _ t3).mono ?_
    rintro e w2 ⟨rfl, rfl⟩
    go_wp2_with (fail)
    refine (CY d _ t4).mono ?_
    rintro e w2 ⟨rfl, rfl⟩
    go_wp2_with (fail)
    go_ret
    exact ⟨_, _, rfl, .of ho1, hb0.trans hb1⟩
  by_cases t9 : b ≠ d
  rotate_left
  · subst t0
    have z5 : (a == b) = false := beq_eq_false_iff_ne.2 t5
    have z6 : (a == c) = false := beq_eq_false_iff_ne.2 t6
    have z7 : (a == d) = false := beq_eq_false_iff_ne.2 t7
    have z8 : (b == c) = false := beq_eq_false_iff_ne.2 t8
    have z9 : (b == d) = true := by simpa using t9
    clear hno h
    go_enter Tryd.func47, Tryd.ntmps47
    go_wp2_with (at_builtin; refine list_spreadIA hi hz0 hz1 hz2 (.tmp 12) (.tmp 13) 48 Tryd.underlying48 hown0 h1 hL (by omega) (by omega) (by simp) (by rfl) (by rfl) (by rfl) (by rfl) ?_; intro p1 cap1 w1 ho1 hb1; simp only [Nat.zero_add, List.nil_append] at ho1 ⊢)
    refine (CY a _ t1).mono ?_
    rintro e w2 ⟨rfl, rfl⟩
    go_wp2_with (fail)
    refine (CY b _ t2).mono ?_
    rintro e w2 ⟨rfl, rfl⟩
    go_wp2_with (fail)
    refine (CY c _ t3).mono ?_
    rintro e w2 ⟨rfl, rfl⟩
    go_wp2_with (fail)
    refine (CY d _ t4).mono ?_
    rintro e w2 ⟨rfl, rfl⟩
    go_wp2_with (fail)
    go_ret
    exact ⟨_, _, rfl, .of ho1, hb0.trans hb1⟩
  have t10 : ¬ (c ≠ d) := fun e => hno ⟨t0, t1, t2, t3, t4, t5, t6, t7, t8, t9, e⟩
  subst t0
  have z5 : (a == b) = false := beq_eq_false_iff_ne.2 t5
  have z6 : (a == c) = false := beq_eq_false_iff_ne.2 t6
  have z7 : (a == d) = false := beq_eq_false_iff_ne.2 t7
  have z8 : (b == c) = false := beq_eq_false_iff_ne.2 t8
  have z9 : (b == d) = false := beq_eq_false_iff_ne.2 t9
  have z10 : (c == d) = true := by simpa using t10
  clear hno h
  go_enter Tryd.func47, Tryd.ntmps47
  go_wp2_with (at_builtin; refine list_spreadIA hi hz0 hz1 hz2 (.tmp 12) (.tmp 13) 48 Tryd.underlying48 hown0 h1 hL (by omega) (by omega) (by simp) (by rfl) (by rfl) (by rfl) (by rfl) ?_; intro p1 cap1 w1 ho1 hb1; simp only [Nat.zero_add, List.nil_append] at ho1 ⊢)
  refine (CY a _ t1).mono ?_
  rintro e w2 ⟨rfl, rfl⟩
  go_wp2_with (fail)
  refine (CY b _ t2).mono ?_
  rintro e w2 ⟨rfl, rfl⟩
  go_wp2_with (fail)
  refine (CY c _ t3).mono ?_
  rintro e w2 ⟨rfl, rfl⟩
  go_wp2_with (fail)
  refine (CY d _ t4).mono ?_
  rintro e w2 ⟨rfl, rfl⟩
  go_wp2_with (fail)
  go_ret
  exact ⟨_, _, rfl, .of ho1, hb0.trans hb1⟩

theorem specQuarter_any (p : Option Addr) (n cp : Nat) (L : List Int) (a b c d : Int) (w : World) (hn : n ≤ 1048576) (hL : L.length = n) (h : IntsIn w p n L) :
    Calls Tryd.prog 47 #[.slice p n cp, .int .i64 a, .int .i64 b, .int .i64 c, .int .i64 d] w fun e w' => ∃ p' c', e = .returned (.slice p' n c') ∧ OwnI 3 w' w.heap.size w'.heap.size (.slice p' n c') n (quarterF L a b c d) ∧ Below w.heap.size w w' := by
  unfold quarterF
  rw [hL]
  by_cases hok : qOk n a b c d
  · rw [if_pos hok]
    obtain ⟨rfl, ha, hb, hc, hd, h1, h2, h3, h4, h5, h6⟩ := hok
    obtain ⟨ia, rfl⟩ : ∃ ia : Nat, a = ia := ⟨a.toNat, by omega⟩
    obtain ⟨ib, rfl⟩ : ∃ ib : Nat, b = ib := ⟨b.toNat, by omega⟩
    obtain ⟨ic, rfl⟩ : ∃ ic : Nat, c = ic := ⟨c.toNat, by omega⟩
    obtain ⟨id, rfl⟩ : ∃ id : Nat, d = id := ⟨d.toNat, by omega⟩
    exact specQuarter_yes p cp L ia ib ic id w hL h (by omega) (by omega) (by omega) (by omega) (by omega) (by omega) (by omega) (by omega) (by omega) (by omega)
  · rw [if_neg hok]
    exact specQuarter_no p n cp L a b c d w hn hL h hok

end Go.Proofs.YtcmbglelllcbdalDoor
