/-
  A quarter round over words, as numbers; lists with four places set.
-/
import Derived.Test.YtcmbglelllcbdalDoorWordMath
import Derived.Test.YtcmbglelllcbdalDoorInfoI
namespace Go.Proofs.YtcmbglelllcbdalDoor
open Go.RowKit

/-- The four words behind a quarter round. -/
def quarterN (a b c d : Nat) : Nat × Nat × Nat × Nat :=
  let a1 := (a + b) % 4294967296
  let d1 := turnN (d ^^^ a1) 16
  let c1 := (c + d1) % 4294967296
  let b1 := turnN (b ^^^ c1) 12
  let a2 := (a1 + b1) % 4294967296
  let d2 := turnN (d1 ^^^ a2) 8
  let c2 := (c1 + d2) % 4294967296
  let b2 := turnN (b1 ^^^ c2) 7
  (a2, b2, c2, d2)
def setQ (L : List Int) (a b c d : Nat) (u v x y : Int) : List Int := (((L.set a u).set b v).set c x).set d y
def quarterL (L : List Int) (a b c d : Nat) : List Int :=
  let q := quarterN (wordN (L.getD a 0)) (wordN (L.getD b 0)) (wordN (L.getD c 0)) (wordN (L.getD d 0))
  setQ L a b c d (q.1 : Int) (q.2.1 : Int) (q.2.2.1 : Int) (q.2.2.2 : Int)
theorem wordN_add (u v : Int) : (IntKind.i64.wrap (u + v)) % 4294967296 = (((wordN u + wordN v) % 4294967296 : Nat) : Int) := by
  rw [IntKind.wrap_i64]
  unfold wordN
  omega
theorem wordN_nat {a : Nat} (h : a < 4294967296) : wordN (a : Int) = a := by unfold wordN; omega
theorem wrap_mod (n : Nat) : wordN (IntKind.i64.wrap (n : Int)) = n % 4294967296 := by
  rw [IntKind.wrap_i64]
  unfold wordN
  omega
theorem ofInt_mod (u : Int) : (BitVec.ofInt 64 u).toNat % 4294967296 = wordN u := by
  have e : (BitVec.ofInt 64 u).toNat = (u % 18446744073709551616).toNat := BitVec.toNat_ofInt u
  rw [e]
  unfold wordN
  omega
theorem bits_xor_mod (u v : Int) : wordN (bits .xor .i64 u v) = wordN u ^^^ wordN v := by
  have e : bits .xor .i64 u v = IntKind.i64.wrap ((BitVec.ofInt 64 u ^^^ BitVec.ofInt 64 v).toNat : Int) := rfl
  rw [e, wrap_mod, BitVec.toNat_xor, ← ofInt_mod u, ← ofInt_mod v]
  exact Nat.xor_mod_two_pow (n := 32)
theorem turn_xor (u v : Int) (k : Int) : turnI (bits .xor .i64 u v) k = ((turnN (wordN u ^^^ wordN v) (countN k) : Nat) : Int) := by unfold turnI; rw [bits_xor_mod]
section
variable {L : List Int} {a b c d : Nat} {u v x y z : Int}
theorem setQ_length : (setQ L a b c d u v x y).length = L.length := by simp [setQ]
theorem setQ_self (ha : a < L.length) (hb : b < L.length) (hc : c < L.length) (hd : d < L.length) : setQ L a b c d (L.getD a 0) (L.getD b 0) (L.getD c 0) (L.getD d 0) = L := by
  have e : ∀ k, k < L.length → L.set k (L.getD k 0) = L := fun k hk => by
    rw [List.getD_eq_getElem?_getD, List.getElem?_eq_getElem hk]
    exact List.set_getElem_self hk
  unfold setQ
  rw [e a ha, e b hb, e c hc, e d hd]
theorem setQ_a (h1 : a ≠ b) (h2 : a ≠ c) (h3 : a ≠ d) : (setQ L a b c d u v x y).set a z = setQ L a b c d z v x y := by
  unfold setQ
  rw [List.set_comm _ _ h3.symm, List.set_comm _ _ h2.symm, List.set_comm _ _ h1.symm, List.set_set]
theorem setQ_b (h1 : b ≠ c) (h2 : b ≠ d) : (setQ L a b c d u v x y).set b z = setQ L a b c d u z x y := by
  unfold setQ
  rw [List.set_comm _ _ h2.symm, List.set_comm _ _ h1.symm, List.set_set]
theorem setQ_c (h1 : c ≠ d) : (setQ L a b c d u v x y).set c z = setQ L a b c d u v z y := by
  unfold setQ
  rw [List.set_comm _ _ h1.symm, List.set_set]
theorem setQ_d : (setQ L a b c d u v x y).set d z = setQ L a b c d u v x z := by
  unfold setQ
  rw [List.set_set]
theorem getQ_a (ha : a < L.length) (h1 : a ≠ b) (h2 : a ≠ c) (h3 : a ≠ d) : (setQ L a b c d u v x y)[a]? = some u := by
  unfold setQ
  rw [List.getElem?_set_ne h3.symm, List.getElem?_set_ne h2.symm, List.getElem?_set_ne h1.symm, List.getElem?_set_self ha]
theorem getQ_b (hb : b < L.length) (h1 : b ≠ c) (h2 : b ≠ d) : (setQ L a b c d u v x y)[b]? = some v := by
  unfold setQ
  rw [List.getElem?_set_ne h2.symm, List.getElem?_set_ne h1.symm, List.getElem?_set_self (by simpa using hb)]
theorem getQ_c (hc : c < L.length) (h1 : c ≠ d) : (setQ L a b c d u v x y)[c]? = some x := by
  unfold setQ
  rw [List.getElem?_set_ne h1.symm, List.getElem?_set_self (by simpa using hc)]
theorem getQ_d (hd : d < L.length) : (setQ L a b c d u v x y)[d]? = some y := by
  unfold setQ
  rw [List.getElem?_set_self (by simpa using hd)]
end

section
variable {P : Program} {e : TypeId} {i : TypeInfo} {base n m c : Nat} {wr : World} {v : Value} {p : Option Addr} {xs ys : List Int}
theorem news_of_inI {wr : World} {b o m : Nat} {ys : List Int} (hl : ys.length = m) (hc : ∀ i, i < m → wr.cell? ⟨b, o + i, none⟩ = some (.int .i64 (ys.getD i 0))) : ∀ j u, (ys.map (Value.int .i64))[j]? = some u → wr.cell? ((⟨b, o, none⟩ : Addr).add j) = some u := by
  intro j u hj
  have hjl : j < ys.length := by have := (List.getElem?_eq_some_iff.1 hj).1; simpa using this
  have hplain : (⟨b, o, none⟩ : Addr).add j = ⟨b, o + j, none⟩ := by unfold Addr.add; split <;> simp_all
  rw [hplain, hc j (by omega)]
  simpa [List.getD, List.getElem?_eq_getElem hjl] using hj
/-- 'append(out, x...)' of ints that lie somewhere, at least one, in a plain region. -/
theorem list_spreadI {ops : Array Oper} {rest : List Oper} {o : Oper} {a : Act} {Q : Exit → Act → World → Prop} (hi : P.info? e = some i) (hz : i.zero = some (.int .i64 0)) (hsize : i.size = 1) (hby : i.bytes = 8)
    (s y : Operand) (t : TypeId) (ht : P.underlying t = some (.slice e)) (hown : wr.ownsRow base e 1 v n (xs.map (Value.int .i64))) (hin : IntsIn wr p m ys) (hl : ys.length = m) (hm : 0 < m) (hm' : m ≤ 1099511627776)
    (hn : n ≤ 1099511627776) (hbase : base ≤ wr.heap.size)
    (hgd : o.guard = none) (ho : o.op = .call { callee := .builtin .append, args := #[s, y], argTypes := #[t, t] }) (hs : a.eval s = v) (hy : a.eval y = .slice p m c)
    (h : ∀ g cap w', w'.ownsRow base e 1 (.slice (some ⟨g, 0, none⟩) (n + m) cap) (n + m) ((xs ++ ys).map (Value.int .i64)) → Below base wr w' → wpList P ops Q rest (a.put o.dst (.slice (some ⟨g, 0, none⟩) (n + m) cap)) w') :
    wpList P ops Q (o :: rest) a wr := by
  obtain ⟨b, of, rfl, hc⟩ := hin hm
  refine wpList_append_lies _ hgd s y t ho base e i (.int .i64 0) 1 8 ht hi hz hsize hby rfl (by decide) v n (xs.map (Value.int .i64)) hs hown ⟨b, of, none⟩ m c (ys.map (Value.int .i64)) hy (by simp [hl]) (news_of_inI hl hc) (ints_oneCell _ _) hm (pushs_fitI hn hm').1 (pushs_fitI hn hm').2 hbase _ rfl ?_
  intro g cap w' h1 h2 _ _
  exact h g cap w' (by simpa using h1) ((Below.refl _ _).grown h2 hbase fun k hk => (hown.lt k hk).1)
end

end Go.Proofs.YtcmbglelllcbdalDoor
