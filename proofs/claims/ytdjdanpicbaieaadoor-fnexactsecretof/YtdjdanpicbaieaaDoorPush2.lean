/-
  'append' to one of two rows of bytes that the call owns: the other one stays as it was. Conditions: each fact's own.
-/
import Derived.Test.YtdjdanpicbaieaaDoorConcat
namespace Go.Proofs.YtdjdanpicbaieaaDoor
open Go.RowKit
set_option maxRecDepth 100000

section
variable {P : Program} {e : TypeId} {i : TypeInfo} {base n m c k : Nat} {wr : World} {v u : Value} {p : Option Addr} {xs ys : List Int} {zs : List Value}
/-- One byte in a plain region. -/
theorem list_push2 {ops : Array Oper} {rest : List Oper} {o : Oper} {a : Act} {Q : Exit → Act → World → Prop} (hi : P.info? e = some i) (hz : i.zero = some (.int .u8 0)) (hsize : i.size = 1) (hby : i.bytes = 1)
    (s y : Operand) (t : TypeId) (ht : P.underlying t = some (.slice e)) (x : Int) (hown : wr.ownsRow base e 1 v n (xs.map (Value.int .u8))) (hu : wr.ownsRow base e 1 u k zs) (hne : u.ownBlock ≠ v.ownBlock) (hn : n ≤ 1099511627776) (hbase : base ≤ wr.heap.size)
    (hgd : o.guard = none) (ho : o.op = .call { callee := .builtin .append, args := #[s, y], argTypes := #[t, t] }) (hs : a.eval s = v) (hy : a.eval y = .slice (some ⟨wr.heap.size, 0, none⟩) 1 1)
    (h : ∀ g cap w', w'.ownsRow base e 1 (.slice (some ⟨g, 0, none⟩) (n + 1) cap) (n + 1) ((xs ++ [x]).map (Value.int .u8)) → w'.ownsRow base e 1 u k zs → u.ownBlock ≠ some g → Below base wr w' → wpList P ops Q rest (a.put o.dst (.slice (some ⟨g, 0, none⟩) (n + 1) cap)) w') :
    wpList P ops Q (o :: rest) a (wr.alloc (.cells #[.int .u8 x] e)) := by
  refine wpList_append_lies _ hgd s y t ho base e i (.int .u8 0) 1 1 ht hi hz hsize hby rfl (by decide) v n (xs.map (Value.int .u8)) hs (hown.alloc _) ⟨wr.heap.size, 0, none⟩ 1 1 [.int .u8 x] hy rfl ?_ (fun u hu => by simp at hu; subst hu; rfl) (by decide) (pushs_fit hn (by decide)).1 (pushs_fit hn (by decide)).2 (by simp; omega) _ rfl ?_
  · exact World.news_of_block (cs := #[.int .u8 x]) (heap_alloc_new wr _)
  · intro g cap w' h1 h2 h3 _
    refine h g cap w' (by simpa using h1) ((hu.alloc _).kept h2 (.inr hne)) ?_ (((Below.refl _ _).alloc hbase _).grown h2 (by simp; omega) fun k hk => (hown.lt k hk).1)
    rcases h3 with h3 | h3
    · rw [← h3]; exact hne
    · intro hk
      have := (hu.lt g hk).2
      simp at h3
      omega

/-- Bytes that lie somewhere, in a plain region. -/
theorem list_spread2 {ops : Array Oper} {rest : List Oper} {o : Oper} {a : Act} {Q : Exit → Act → World → Prop} {q : Option Addr} {cq : Nat} (hi : P.info? e = some i) (hz : i.zero = some (.int .u8 0)) (hsize : i.size = 1) (hby : i.bytes = 1)
    (s y : Operand) (t : TypeId) (ht : P.underlying t = some (.slice e)) (hown : wr.ownsRow base e 1 (.slice q n cq) n (xs.map (Value.int .u8))) (hu : wr.ownsRow base e 1 u k zs) (hne : u.ownBlock ≠ (Value.slice q n cq).ownBlock) (hin : BytesIn wr p m ys) (hl : ys.length = m) (hm' : m ≤ 1099511627776)
    (hn : n ≤ 1099511627776) (hbase : base ≤ wr.heap.size)
    (hgd : o.guard = none) (ho : o.op = .call { callee := .builtin .append, args := #[s, y], argTypes := #[t, t] }) (hs : a.eval s = .slice q n cq) (hy : a.eval y = .slice p m c)
    (h : ∀ p' cap w', w'.ownsRow base e 1 (.slice p' (n + m) cap) (n + m) ((xs ++ ys).map (Value.int .u8)) → w'.ownsRow base e 1 u k zs → Below base wr w' → wpList P ops Q rest (a.put o.dst (.slice p' (n + m) cap)) w') :
    wpList P ops Q (o :: rest) a wr := by
  rcases Nat.eq_zero_or_pos m with h0 | h0
  · subst h0
    obtain rfl : ys = [] := List.eq_nil_of_length_eq_zero hl
    simp only [List.append_nil, Nat.add_zero] at h
    exact Lib.wpList_append_run wr hgd s y t t ho _ _ hs hy _ _ (append_empty wr t o.type e i ht hi q n cq p c (owns_cap hown)) (h _ _ _ hown hu (Below.refl _ _))
  · refine list_spread hi hz hsize hby s y t ht hown hin hl h0 hm' hn hbase hgd ho hs hy ?_
    intro g cap w' h1 h2 h3
    exact h _ _ _ h1 (hu.kept h2 (.inr hne)) h3
end

end Go.Proofs.YtdjdanpicbaieaaDoor
