/-
  A part of the proof.
-/
import Derived.Test.YthjapmdikbmmkaaDoorParz15
import Derived.Deep.RegionHeld3
namespace Go.Proofs.YthjapmdikbmmkaaDoor
open Go.RowKit
set_option maxRecDepth 100000
def quarterN (a b c d : Nat) : Nat × Nat × Nat × Nat :=
  let a1 := (a + b) % 4294967296
  let d1 := turnN (d ^^^ a1) 16
  let c1 := (c + d1) % 4294967296
  let b1 := turnN (b ^^^ c1) 12
  let a2 := (a1 + b1) % 4294967296
  let d2 := turnN (d1 ^^^ a2) 8
  let c2 := (c1 + d2) % 4294967296
  let b2 := turnN (b1 ^^^ c2) 7
  (a2, b2, c2, d2)
def setQ (L : List Int) (a b c d : Nat) (u v x y : Int) : List Int := (((L.set a u).set b v).set c x).set d y
def quarterL (L : List Int) (a b c d : Nat) : List Int :=
  let q := quarterN (wordN (L.getD a 0)) (wordN (L.getD b 0)) (wordN (L.getD c 0)) (wordN (L.getD d 0))
  setQ L a b c d (q.1 : Int) (q.2.1 : Int) (q.2.2.1 : Int) (q.2.2.2 : Int)
theorem wordN_add (u v : Int) : (IntKind.i64.wrap (u + v)) % 4294967296 = (((wordN u + wordN v) % 4294967296 : Nat) : Int) := by
  rw [IntKind.wrap_i64]
  unfold wordN
  omega
theorem wordN_nat {a : Nat} (h : a < 4294967296) : wordN (a : Int) = a := by unfold wordN; omega
theorem wrap_mod (n : Nat) : wordN (IntKind.i64.wrap (n : Int)) = n % 4294967296 := by
  rw [IntKind.wrap_i64]
  unfold wordN
  omega
theorem ofInt_mod (u : Int) : (BitVec.ofInt 64 u).toNat % 4294967296 = wordN u := by
  have e : (BitVec.ofInt 64 u).toNat = (u % 18446744073709551616).toNat := BitVec.toNat_ofInt u
  rw [e]
  unfold wordN
  omega
theorem bits_xor_mod (u v : Int) : wordN (bits .xor .i64 u v) = wordN u ^^^ wordN v := by
  have e : bits .xor .i64 u v = IntKind.i64.wrap ((BitVec.ofInt 64 u ^^^ BitVec.ofInt 64 v).toNat : Int) := rfl
  rw [e, wrap_mod, BitVec.toNat_xor, ← ofInt_mod u, ← ofInt_mod v]
  exact Nat.xor_mod_two_pow (n := 32)
theorem turn_xor (u v : Int) (k : Int) : turnI (bits .xor .i64 u v) k = ((turnN (wordN u ^^^ wordN v) (countN k) : Nat) : Int) := by unfold turnI; rw [bits_xor_mod]
section
variable {L : List Int} {a b c d : Nat} {u v x y z : Int}
theorem setQ_length : (setQ L a b c d u v x y).length = L.length := by simp [setQ]
theorem setQ_self (ha : a < L.length) (hb : b < L.length) (hc : c < L.length) (hd : d < L.length) : setQ L a b c d (L.getD a 0) (L.getD b 0) (L.getD c 0) (L.getD d 0) = L := by
  have e : ∀ k, k < L.length → L.set k (L.getD k 0) = L := fun k hk => by
    rw [List.getD_eq_getElem?_getD, List.getElem?_eq_getElem hk]
    exact List.set_getElem_self hk
  unfold setQ
  rw [e a ha, e b hb, e c hc, e d hd]
theorem setQ_a (h1 : a ≠ b) (h2 : a ≠ c) (h3 : a ≠ d) : (setQ L a b c d u v x y).set a z = setQ L a b c d z v x y := by
  unfold setQ
  rw [List.set_comm _ _ h3.symm, List.set_comm _ _ h2.symm, List.set_comm _ _ h1.symm, List.set_set]
theorem setQ_b (h1 : b ≠ c) (h2 : b ≠ d) : (setQ L a b c d u v x y).set b z = setQ L a b c d u z x y := by
  unfold setQ
  rw [List.set_comm _ _ h2.symm, List.set_comm _ _ h1.symm, List.set_set]
theorem setQ_c (h1 : c ≠ d) : (setQ L a b c d u v x y).set c z = setQ L a b c d u v z y := by
  unfold setQ
  rw [List.set_comm _ _ h1.symm, List.set_set]
theorem setQ_d : (setQ L a b c d u v x y).set d z = setQ L a b c d u v x z := by
  unfold setQ
  rw [List.set_set]
theorem getQ_a (ha : a < L.length) (h1 : a ≠ b) (h2 : a ≠ c) (h3 : a ≠ d) : (setQ L a b c d u v x y)[a]? = some u := by
  unfold setQ
  rw [List.getElem?_set_ne h3.symm, List.getElem?_set_ne h2.symm, List.getElem?_set_ne h1.symm, List.getElem?_set_self ha]
theorem getQ_b (hb : b < L.length) (h1 : b ≠ c) (h2 : b ≠ d) : (setQ L a b c d u v x y)[b]? = some v := by
  unfold setQ
  rw [List.getElem?_set_ne h2.symm, List.getElem?_set_ne h1.symm, List.getElem?_set_self (by simpa using hb)]
theorem getQ_c (hc : c < L.length) (h1 : c ≠ d) : (setQ L a b c d u v x y)[c]? = some x := by
  unfold setQ
  rw [List.getElem?_set_ne h1.symm, List.getElem?_set_self (by simpa using hc)]
theorem getQ_d (hd : d < L.length) : (setQ L a b c d u v x y)[d]? = some y := by
  unfold setQ
  rw [List.getElem?_set_self (by simpa using hd)]
end
section
variable {P : Program} {e : TypeId} {i : TypeInfo} {base n m c : Nat} {wr : World} {v : Value} {p : Option Addr} {xs ys : List Int}
theorem news_of_inI {wr : World} {b o m : Nat} {ys : List Int} (hl : ys.length = m) (hc : ∀ i, i < m → wr.cell? ⟨b, o + i, none⟩ = some (.int .i64 (ys.getD i 0))) : ∀ j u, (ys.map (Value.int .i64))[j]? = some u → wr.cell? ((⟨b, o, none⟩ : Addr).add j) = some u := by
  intro j u hj
  have hjl : j < ys.length := by have := (List.getElem?_eq_some_iff.1 hj).1; simpa using this
  have hplain : (⟨b, o, none⟩ : Addr).add j = ⟨b, o + j, none⟩ := by unfold Addr.add; split <;> simp_all
  rw [hplain, hc j (by omega)]
  simpa [List.getD, List.getElem?_eq_getElem hjl] using hj
theorem list_spreadI {ops : Array Oper} {rest : List Oper} {o : Oper} {a : Act} {Q : Exit → Act → World → Prop} (hi : P.info? e = some i) (hz : i.zero = some (.int .i64 0)) (hsize : i.size = 1) (hby : i.bytes = 8)
    (s y : Operand) (t : TypeId) (ht : P.underlying t = some (.slice e)) (hown : wr.ownsRow base e 1 v n (xs.map (Value.int .i64))) (hin : IntsIn wr p m ys) (hl : ys.length = m) (hm : 0 < m) (hm' : m ≤ 1099511627776)
    (hn : n ≤ 1099511627776) (hbase : base ≤ wr.heap.size)
    (hgd : o.guard = none) (ho : o.op = .call { callee := .builtin .append, args := #[s, y], argTypes := #[t, t] }) (hs : a.eval s = v) (hy : a.eval y = .slice p m c)
    (h : ∀ g cap w', w'.ownsRow base e 1 (.slice (some ⟨g, 0, none⟩) (n + m) cap) (n + m) ((xs ++ ys).map (Value.int .i64)) → Below base wr w' → wpList P ops Q rest (a.put o.dst (.slice (some ⟨g, 0, none⟩) (n + m) cap)) w') :
    wpList P ops Q (o :: rest) a wr := by
  obtain ⟨b, of, rfl, hc⟩ := hin hm
  refine wpList_append_lies _ hgd s y t ho base e i (.int .i64 0) 1 8 ht hi hz hsize hby rfl (by decide) v n (xs.map (Value.int .i64)) hs hown ⟨b, of, none⟩ m c (ys.map (Value.int .i64)) hy (by simp [hl]) (news_of_inI hl hc) (ints_oneCell _ _) hm (pushs_fitI hn hm').1 (pushs_fitI hn hm').2 hbase _ rfl ?_
  intro g cap w' h1 h2 _ _
  exact h g cap w' (by simpa using h1) ((Below.refl _ _).grown h2 hbase fun k hk => (hown.lt k hk).1)
end
theorem specWord_same (n : Int) (w : World) :
    Calls Tryd.prog 69 #[.int .i64 n] w fun e w' => e = .returned (.int .i64 (n % 4294967296)) ∧ w' = w := by
  have hm := i64_mask32 n
  go_enter Tryd.func69, Tryd.ntmps69
  go_wp2
  go_ret
  exact ⟨rfl, rfl⟩
theorem implWord_same (n : Int) (w : World) :
    Calls Tryd.prog 87 #[.int .i64 n] w fun e w' => e = .returned (.int .i64 (n % 4294967296)) ∧ w' = w := by
  go_enter Tryd.func87, Tryd.ntmps87
  go_wp2
  go_ret
  exact ⟨rfl, rfl⟩
theorem specWord_any (n : Int) (w : World) :
    Calls Tryd.prog 69 #[.int .i64 n] w fun e w' => e = .returned (.int .i64 (n % 4294967296)) ∧ Below w.heap.size w w' :=
  (specWord_same n w).mono fun _ _ ⟨h1, h2⟩ => ⟨h1, by rw [h2]; exact Below.refl _ _⟩
theorem rotate_same (x : Nat) (k : Int) (w : World) (hx : x < 4294967296) :
    Calls Tryd.prog 89 #[.int .u32 x, .int .i64 k] w fun e w' => e = .returned (.int .u32 ((turnN x (countN k) : Nat) : Int)) ∧ w' = w := by
  have hm := (u64_mask31 k).trans (countN_eq k).symm
  have hlt := countN_lt k
  generalize countN k = m at hm hlt ⊢
  have ho := turn_u32 hx hlt
  go_enter Tryd.func89, Tryd.ntmps89
  go_wp2
  go_ret
  exact ⟨rfl, rfl⟩
theorem turned_same (x : Nat) (k : Int) (w : World) (hx : x < 4294967296) :
    Calls Tryd.prog 85 #[.int .u32 x, .int .i64 k] w fun e w' => e = .returned (.int .u32 ((turnN x (countN k) : Nat) : Int)) ∧ w' = w := by
  have hr := turn_lt hx (countN_lt k)
  have hc := fun w => rotate_same x k w hx
  generalize turnN x (countN k) = r at hr hc ⊢
  go_enter Tryd.func85, Tryd.ntmps85
  go_wp2_with (fail)
  refine (hc _).mono ?_
  rintro e w1 ⟨rfl, rfl⟩
  go_wp2
  go_ret
  exact ⟨rfl, rfl⟩
theorem specTurn_any (n k : Int) (w : World) :
    Calls Tryd.prog 88 #[.int .i64 n, .int .i64 k] w fun e w' => e = .returned (.int .i64 (turnI n k)) ∧ Below w.heap.size w w' := by
  have hx := wordN_lt n
  have he := wordN_eq n
  have hm := (i64_mask31 k).trans (countN_eq k).symm
  have hlt := countN_lt k
  unfold turnI
  generalize wordN n = x at hx he ⊢
  generalize countN k = m at hm hlt ⊢
  have ho := turn_i64 hx hlt
  have hs := shl_small hx hlt
  generalize turnN x m = r at ho ⊢
  go_enter Tryd.func88, Tryd.ntmps88
  go_wp2_with (fail)
  refine (specWord_same n _).mono ?_
  rintro e w1 ⟨rfl, rfl⟩
  rw [← he]
  clear he
  go_wp2_with (fail)
  go_quiet ((go_at_call 69; exact Calls.quiet_of_same (specWord_same _ _)))
  go_wp2
  go_ret
  rw [ho]
  exact ⟨rfl, below_drewN (Below.refl _ _) _⟩
end Go.Proofs.YthjapmdikbmmkaaDoor
namespace Go.Proofs.YthjapmdikbmmkaaDoor
set_option maxRecDepth 100000
section
variable {P : Program} {ops : Array Oper} {Q : Exit → Act → World → Prop} {S : World → Prop} {m : Nat}
def AnyK (P : Program) (ops : Array Oper) (Q : Exit → Act → World → Prop) (S : World → Prop) (m : Nat) : Nat → Array Bool → Act → World → Prop
  | 0, listed, a, w => Region.ready .any ops listed = [] ∧ Q .normal a w
  | fuel + 1, listed, a, w => (Region.ready .any ops listed = [] → Q .normal a w) ∧ ∀ i ∈ Region.ready .any ops listed, wpOp P ops Q i (fun a' w' => ((listed.setIfInBounds i true).getD m true = false → S w') ∧ AnyK P ops Q S m fuel (listed.setIfInBounds i true) a' w') a w
theorem AnyK.any : ∀ (fuel : Nat) (listed : Array Bool) (a : Act) (w : World), AnyK P ops Q S m fuel listed a w → wpAny P .any ops Q fuel listed a w
  | 0, _, _, _, h => h
  | fuel + 1, _, _, _, h => ⟨h.1, fun i hi => wpOp_mono (fun a' w' k => AnyK.any fuel _ a' w' k.2) (h.2 i hi)⟩
theorem anyK_first {i : Nat} {oi om : Oper} {v : Value} (hi : ops[i]? = some oi) (hm : ops[m]? = some om) (him : i ≠ m) (hwait : ∃ e ∈ om.after, Region.binds .any e = true ∧ e.on = i) (hsel : ∀ (j : Nat) (o : Oper) cs b, ops[j]? = some o → o.op ≠ .select cs b)
    (hQ : ∀ c a w, Q (.panic c) (a.put oi.dst v) w → Q (.panic c) a w) :
    ∀ (fuel : Nat) (listed : Array Bool) (a : Act) (w : World),
      (∀ j oj, ops[j]? = some oj → j ≠ i → listed.getD j true = false → (∀ e ∈ oj.after, Region.binds .any e = true → e.on ≠ i) → oi.apart ops oj = true) →
      i ∈ Region.ready .any ops listed → YieldsIf P ops S oi v a → S w → listed.getD m true = false →
      AnyK P ops Q S m fuel (listed.setIfInBounds i true) (a.put oi.dst v) w → AnyK P ops Q S m (fuel + 1) listed a w := by
  intro fuel
  induction fuel with
  | zero =>
    intro listed a w _ hr hy hS _ H
    refine ⟨fun h => absurd hr (by rw [h]; exact List.not_mem_nil), fun j hj => ?_⟩
    by_cases hji : j = i
    · subst hji; exact hy.wpOp hi hS ⟨fun _ => hS, H⟩
    · exact absurd (ready_mono hj hji) (by rw [H.1]; exact List.not_mem_nil)
  | succ fuel ih =>
    intro listed a w hfree hr hy hS hlm H
    refine ⟨fun h => absurd hr (by rw [h]; exact List.not_mem_nil), fun j hj => ?_⟩
    by_cases hji : j = i
    · subst hji; exact hy.wpOp hi hS ⟨fun _ => hS, H⟩
    · have hun : listed.getD i true = false := (mem_ready.1 hr).1
      obtain ⟨hjun, oj, hoj, hall⟩ := mem_ready.1 hj
      have hnot : ∀ e ∈ oj.after, Region.binds .any e = true → e.on ≠ i := fun e he hb heq => by
        have h1 := hall e he hb
        rw [heq] at h1
        rcases Nat.lt_or_ge i listed.size with h' | h'
        · simp [h'] at hun h1
          rw [hun] at h1
          cases h1
        · simp [Array.getElem?_eq_none h'] at h1
      have hjm : j ≠ m := fun e => by
        subst e
        rw [hoj] at hm
        cases hm
        obtain ⟨e, he, hb, ho⟩ := hwait
        exact hnot e he hb ho
      have hlm' : (listed.setIfInBounds j true).getD m true = false := by rw [getD_set_ne true hjm]; exact hlm
      have h2 := wpOp_putIf hoj (hfree j oj hoj hji hjun hnot) (fun cs b => hsel i oi cs b hi) (fun cs b => hsel j oj cs b hoj) hQ hy (H.2 j (ready_mono hj hji))
      refine wpOp_mono (fun a' w' k => ?_) h2
      obtain ⟨k1, k2, k3⟩ := k
      rw [Array.setIfInBounds_comm _ _ (Ne.symm hji)] at k2 k3
      have hS' : S w' := k2 (by rw [getD_set_ne true him]; exact hlm')
      refine ⟨fun _ => hS', ih _ a' w' (fun q oq hq hqi hqu hqn => hfree q oq hq hqi ?_ hqn) (ready_mono hr (Ne.symm hji)) k1 hS' hlm' k3⟩
      by_cases hjq : j = q
      · subst hjq; exact hjun
      · rw [getD_set_ne true hjq] at hqu; exact hqu
theorem anyK_take {i : Nat} {oi om : Oper} {v : Value} {fuel : Nat} {listed : Array Bool} {a : Act} {w : World} (hi : ops[i]? = some oi) (hm : ops[m]? = some om) (him : (i != m && om.after.any (fun e => Region.binds .any e && e.on == i)) = true)
    (hs : Region.noSelect ops = true) (hf : Region.free .any ops listed i = true) (hr : (Region.ready .any ops listed).contains i = true) (hlm : listed.getD m true = false)
    (hQ : ∀ c a w, Q (.panic c) (a.put oi.dst v) w → Q (.panic c) a w) (hy : YieldsIf P ops S oi v a) (hS : S w)
    (h : AnyK P ops Q S m fuel (listed.setIfInBounds i true) (a.put oi.dst v) w) : AnyK P ops Q S m (fuel + 1) listed a w := by
  rw [Bool.and_eq_true] at him
  refine anyK_first hi hm (by simpa using him.1) ?_ (Region.noSelect_spec hs) hQ fuel listed a w (Region.free_spec hi hf) (by simpa using hr) hy hS hlm h
  obtain ⟨e, he, hb⟩ := Array.any_eq_true'.1 him.2
  rw [Bool.and_eq_true] at hb
  exact ⟨e, he, hb.1, by simpa using hb.2⟩
theorem anyK_one {i : Nat} {o : Oper} {fuel : Nat} {listed : Array Bool} {a : Act} {w : World} (hr : Region.ready .any ops listed = [i]) (ho : ops[i]? = some o)
    (h : ∀ K' : Act → World → Prop, Go.Shut (∀ a w, ((listed.setIfInBounds i true).getD m true = false → S w) → AnyK P ops Q S m fuel (listed.setIfInBounds i true) a w → K' a w) → if Region.wanted o (yielded ops a.tmps) = true then Oper.wp P o a w K' Q else K' (a.put o.dst undef) w) :
    AnyK P ops Q S m (fuel + 1) listed a w := by
  refine ⟨fun e => absurd (hr.symm.trans e) (by simp), fun j hj => ?_⟩
  rw [hr, List.mem_singleton] at hj
  subst hj
  exact wpOp_step ho (fun K' hK => h K' (fun a w h1 h2 => hK a w ⟨h1, h2⟩))
theorem anyK_done {listed : Array Bool} {a : Act} {w : World} (hr : Region.ready .any ops listed = []) (h : Q .normal a w) : ∀ fuel, AnyK P ops Q S m fuel listed a w
  | 0 => ⟨hr, h⟩
  | _ + 1 => ⟨fun _ => h, by rw [hr]; simp⟩
theorem wp_region_K (m : Nat) (S : World → Prop) {id : Nat} {a : Act} {w : World} (hm : P.follows .mixedOrders = true) (h : AnyK P ops Q S m ops.size (Array.replicate ops.size false) a w.drew) : (Code.region id ops true).wp P Q a w :=
  wp_region_any hm (h.any)
end
end Go.Proofs.YthjapmdikbmmkaaDoor
