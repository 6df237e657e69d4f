/-
  The specification's own copies of items, the bytes of each too. Conditions: items that lie there, as many as a law hands over.
-/
import Derived.Test.YtkdbcplcpcdnbaaItemsEq
import Derived.Test.YtkdbcplcpcdnbaaConcat
import Derived.Test.YtkdbcplcpcdnbaaShelfAdd
namespace Go.Proofs.Ytkdbcplcpcdnbaa
open Go.RowKit
set_option maxRecDepth 100000

theorem cells_low {w w' : World} {g B : Nat} {A : Array Value} (h : Cells w g A) (b : Below B w w') (hg : g < B) : Cells w' g A :=
  ⟨Nat.lt_of_lt_of_le h.1 b.size, fun i => ⟨(b.cell hg).trans (h.2 i).1, (b.frozen hg).trans (h.2 i).2⟩⟩

/-- An item in a variable of its own whose bytes are told anew, and that is then stored into another: what each step meets. -/
theorem itemBox {w1 : World} {B R : Nat} {s : ByteArray} {t d : Int} {p p1 : Option Addr} {n c n1 c1 : Nat} (C2 : Cells w1 B #[.string s, .int .i64 t, .int .i64 d, .slice p n c]) (C1 : Cells w1 R #[.string { data := #[] }, .int .i64 0, .int .i64 0, .slice none 0 0]) (hne : R ≠ B) :
    ∃ X1 X3, Hid (w1.setCell ⟨B, 3, none⟩ (.slice p1 n1 c1) = X1) ∧ Hid ((((X1.setCell ⟨R, 0, none⟩ (.string s)).setCell ⟨R, 1, none⟩ (.int .i64 t)).setCell ⟨R, 2, none⟩ (.int .i64 d)).setCell ⟨R, 3, none⟩ (.slice p1 n1 c1) = X3) ∧
      w1.cell? ⟨B, 3, none⟩ = some (.slice p n c) ∧ w1.frozen? ⟨B, 3, none⟩ = false ∧
      X1.cell? ⟨B, 0, none⟩ = some (.string s) ∧ X1.cell? ⟨B, 1, none⟩ = some (.int .i64 t) ∧ X1.cell? ⟨B, 2, none⟩ = some (.int .i64 d) ∧ X1.cell? ⟨B, 3, none⟩ = some (.slice p1 n1 c1) ∧
      X1.cell? ⟨R, 0, none⟩ = some (.string { data := #[] }) ∧ X1.frozen? ⟨R, 0, none⟩ = false ∧
      (X1.setCell ⟨R, 0, none⟩ (.string s)).cell? ⟨R, 1, none⟩ = some (.int .i64 0) ∧ (X1.setCell ⟨R, 0, none⟩ (.string s)).frozen? ⟨R, 1, none⟩ = false ∧
      ((X1.setCell ⟨R, 0, none⟩ (.string s)).setCell ⟨R, 1, none⟩ (.int .i64 t)).cell? ⟨R, 2, none⟩ = some (.int .i64 0) ∧ ((X1.setCell ⟨R, 0, none⟩ (.string s)).setCell ⟨R, 1, none⟩ (.int .i64 t)).frozen? ⟨R, 2, none⟩ = false ∧
      (((X1.setCell ⟨R, 0, none⟩ (.string s)).setCell ⟨R, 1, none⟩ (.int .i64 t)).setCell ⟨R, 2, none⟩ (.int .i64 d)).cell? ⟨R, 3, none⟩ = some (.slice none 0 0) ∧ (((X1.setCell ⟨R, 0, none⟩ (.string s)).setCell ⟨R, 1, none⟩ (.int .i64 t)).setCell ⟨R, 2, none⟩ (.int .i64 d)).frozen? ⟨R, 3, none⟩ = false ∧
      X3.cell? ⟨R, 0, none⟩ = some (.string s) ∧ X3.cell? ⟨R, 1, none⟩ = some (.int .i64 t) ∧ X3.cell? ⟨R, 2, none⟩ = some (.int .i64 d) ∧ X3.cell? ⟨R, 3, none⟩ = some (.slice p1 n1 c1) ∧
      Hid (X3.heap.size = w1.heap.size) ∧ Hid (∀ a w0, Below a w0 w1 → a ≤ B → a ≤ R → Below a w0 X3) ∧ Hid (∀ e lo hi v k xs, Own e w1 lo hi v k xs → B < lo → R < lo → Own e X3 lo hi v k xs) := by
  have D0 := C1.other (a := ⟨B, 3, none⟩) (.slice p1 n1 c1) hne
  have E0 := C2.set 3 (by simp) (.slice p1 n1 c1)
  have D1 := D0.set 0 (by simp) (.string s)
  have D2 := D1.set 1 (by simp) (.int .i64 t)
  have D3 := D2.set 2 (by simp) (.int .i64 d)
  have D4 := D3.set 3 (by simp) (.slice p1 n1 c1)
  refine ⟨_, _, rfl, rfl, (C2.2 3).1, (C2.2 3).2, (E0.2 0).1, (E0.2 1).1, (E0.2 2).1, (E0.2 3).1, (D0.2 0).1, (D0.2 0).2, (D1.2 1).1, (D1.2 1).2, (D2.2 2).1, (D2.2 2).2, (D3.2 3).1, (D3.2 3).2, (D4.2 0).1, (D4.2 1).1, (D4.2 2).1, (D4.2 3).1, by simp [Hid], fun a w0 b h1 h2 => ?_, fun e lo hi v k xs o h1 h2 => ?_⟩
  · exact ((((b.setCell (p := ⟨B, 3, none⟩) h1 _).setCell (p := ⟨R, 0, none⟩) h2 _).setCell (p := ⟨R, 1, none⟩) h2 _).setCell (p := ⟨R, 2, none⟩) h2 _).setCell (p := ⟨R, 3, none⟩) h2 _
  · exact ((((o.set_below (a := ⟨B, 3, none⟩) h1 _).set_below (a := ⟨R, 0, none⟩) h2 _).set_below (a := ⟨R, 1, none⟩) h2 _).set_below (a := ⟨R, 2, none⟩) h2 _).set_below (a := ⟨R, 3, none⟩) h2 _

set_option maxHeartbeats 2000000 in
theorem l13Item_own (s : ByteArray) (t d : Int) (p : Option Addr) (n c : Nat) (xs : List Int) (w : World) (hn : n ≤ 1048576) (hx : xs.length = n) (h : BytesIn w p n xs) :
    Calls Try.prog 47 #[.agg #[.string s, .int .i64 t, .int .i64 d, .slice p n c]] w fun z w' => ∃ p' c', z = .returned (.agg #[.string s, .int .i64 t, .int .i64 d, .slice p' n c']) ∧
      Own 5 w' w.heap.size w'.heap.size (.slice p' n c') n xs ∧ Below w.heap.size w w' := by
  obtain ⟨i0, hi, hz0, hz1, hz2⟩ := info_parts infoByte
  have kA : ∀ o1 o2 o3, Below w.heap.size w (((w.alloc o1).alloc o2).alloc o3) := fun o1 o2 o3 => made_below _ _ (made_below _ _ (made_below _ _ (Below.refl _ _)))
  obtain ⟨W, hW⟩ : ∃ W, W = ((w.alloc (.cells #[.string s, .int .i64 t, .int .i64 d, .slice p n c] 26)).alloc (.cells #[.string { data := #[] }, .int .i64 0, .int .i64 0, .slice none 0 0] 26)).alloc (.cells #[] 5) := ⟨_, rfl⟩
  have kW : Below w.heap.size w W := by rw [hW]; exact kA _ _ _
  have zW : W.heap.size = w.heap.size + 3 := by rw [hW]; simp
  have C2 : Cells W w.heap.size #[.string s, .int .i64 t, .int .i64 d, .slice p n c] := by rw [hW]; exact (Cells.made w _ _).on (made_below _ _ (made_below _ _ (Below.refl _ _)))
  have C1 : Cells W (w.heap.size + 1) #[.string { data := #[] }, .int .i64 0, .int .i64 0, .slice none 0 0] := by
    have := (Cells.made (w.alloc (.cells #[.string s, .int .i64 t, .int .i64 d, .slice p n c] 26)) #[.string { data := #[] }, .int .i64 0, .int .i64 0, .slice none 0 0] 26).on (made_below _ (.cells #[] 5) (Below.refl _ _))
    rw [hW]
    rw [show (w.alloc (.cells #[.string s, .int .i64 t, .int .i64 d, .slice p n c] 26)).heap.size = w.heap.size + 1 by simp] at this
    exact this
  have hE : W.ownsRow (w.heap.size + 1 + 1) 5 1 (.slice (some ⟨w.heap.size + 1 + 1, 0, none⟩) 0 0) 0 (([] : List Int).map (Value.int .u8)) := by
    refine ⟨rfl, .inr ⟨w.heap.size + 1 + 1, 0, #[], rfl, Nat.le_refl _, ?_, Nat.le_refl _, Nat.zero_le _, rfl, rfl⟩⟩
    have := heap_made ((w.alloc (.cells #[.string s, .int .i64 t, .int .i64 d, .slice p n c] 26)).alloc (.cells #[.string { data := #[] }, .int .i64 0, .int .i64 0, .slice none 0 0] 26)) (.cells #[] 5)
    rw [hW]
    simpa using this
  have hin := in_below h kW
  have l3 : W.cell? ⟨w.heap.size, 3, none⟩ = some (.slice p n c) := (C2.2 3).1
  replace hW : Hid (((w.alloc (.cells #[.string s, .int .i64 t, .int .i64 d, .slice p n c] 26)).alloc (.cells #[.string { data := #[] }, .int .i64 0, .int .i64 0, .slice none 0 0] 26)).alloc (.cells #[] 5) = W) := hW.symm
  clear kA
  go_enter Try.func47, Try.ntmps47
  go_wp2_with (first | rw [hW.out] | (at_builtin; refine list_spreadA hi hz0 hz1 hz2 _ _ 22 Try.underlying22 hE hin hx (by omega) (by omega) (by omega) (by rfl) (by rfl) (by rfl) (by rfl) ?_; intro p1 c1 w1 o1 b1; rw [List.nil_append, Nat.zero_add] at o1; rw [Nat.zero_add]; have hb1 : Below (w.heap.size + 1 + 1) W w1 := b1; have D2 : Cells w1 w.heap.size #[.string s, .int .i64 t, .int .i64 d, .slice p n c] := cells_low C2 hb1 (by omega); have D1 := cells_low C1 hb1 (by omega); obtain ⟨X1, X3, hX1, hX3, a1, a2, a3, a4, a5, a6, a7, a8, a9, a10, a11, a12, a13, a14, a15, a16, a17, a18, hsz, hbX, hoX⟩ := itemBox (p1 := p1) (n1 := n) (c1 := c1) D2 D1 (by omega)) | rw [hX1.out] | rw [hX3.out])
  refine bodyPost_ret (v := .agg #[.string s, .int .i64 t, .int .i64 d, .slice p1 n c1]) ?_ rfl ⟨_, _, rfl, ?_, ?_⟩
  · simp only [results, Try.f47]
    go_simp
  · have e2 := hsz.out
    have o2 := hoX.out _ _ _ _ _ _ (Own.of o1) (by omega) (by omega)
    rw [e2]
    exact ⟨owns_mono o2.1 (by omega), o2.2⟩
  · exact hbX.out _ _ (kW.trans (hb1.mono (by omega))) (Nat.le_refl _) (by omega)

/-- One more item behind a row of one's own. -/
theorem OwnItems.push {w w' : World} {lo n g cap : Nat} {v : Value} {its : List ItA} {x : ItA} (h : OwnItems w lo w.heap.size v n its) (ho : Own 5 w lo w.heap.size x.slice x.n x.xs) (hxv : x.slice.ownBlock = none ∨ x.slice.ownBlock ≠ v.ownBlock)
    (hap : ∀ y ∈ its, y.slice.ownBlock = none ∨ y.slice.ownBlock ≠ x.slice.ownBlock) (hrow : w'.ownsRow lo 26 4 (.slice (some ⟨g, 0, none⟩) (n + 1) cap) (n + 1) (flatI its ++ x.vals)) (hg : w.grownBy w' v.ownBlock)
    (hloc : v.ownBlock = some g ∨ w.heap.size ≤ g) : OwnItems w' lo w'.heap.size (.slice (some ⟨g, 0, none⟩) (n + 1) cap) (n + 1) (its ++ [x]) := by
  have hz := hg.size
  have far : ∀ y : ItA, Own 5 w lo w.heap.size y.slice y.n y.xs → (y.slice.ownBlock = none ∨ y.slice.ownBlock ≠ v.ownBlock) → y.slice.ownBlock = none ∨ y.slice.ownBlock ≠ some g := fun y oy hy => by
    rcases hloc with e | e
    · rw [← e]; exact hy
    · rcases hB : y.slice.ownBlock with _ | j
      · exact .inl rfl
      · right
        have := oy.2 j hB
        simp only [ne_eq, Option.some.injEq]
        omega
  refine ⟨by simp [h.len], by rw [flatI_append]; simpa [flatI] using hrow, fun k hk => (hrow.lt k hk).2, fun y hy => ?_, fun y hy => ?_, ?_⟩
  · rcases List.mem_append.1 hy with hy | hy
    · exact Own.wide (w := w') (lo := lo) (hi := w.heap.size) ⟨(h.bytes y hy).1.kept hg (h.apart y hy), (h.bytes y hy).2⟩ (Nat.le_refl _) hz
    · simp only [List.mem_singleton] at hy
      subst hy
      exact Own.wide (w := w') (lo := lo) (hi := w.heap.size) ⟨ho.1.kept hg hxv, ho.2⟩ (Nat.le_refl _) hz
  · rcases List.mem_append.1 hy with hy | hy
    · exact far y (h.bytes y hy) (h.apart y hy)
    · simp only [List.mem_singleton] at hy
      subst hy
      exact far y ho hxv
  · rw [List.pairwise_append]
    refine ⟨h.pair, by simp, fun y hy z hz => ?_⟩
    simp only [List.mem_singleton] at hz
    subst hz
    exact hap y hy

theorem build_item (s : ByteArray) (t d : Int) (p : Option Addr) (n c : Nat) (X : World) :
    (Instr.buildSlice 24 1 #[(0, .agg #[.string s, .int .i64 t, .int .i64 d, .slice p n c])]).run Try.prog X = .ok (.slice (some ⟨X.heap.size, 0, none⟩) 1 1) (X.alloc (.cells #[.string s, .int .i64 t, .int .i64 d, .slice p n c] 26)) := by kernel_rfl
theorem vals_one (x : ItA) : ∀ v ∈ x.vals, v.oneCell' = true := by
  intro v hv
  simp only [ItA.vals, List.mem_cons, List.not_mem_nil, or_false] at hv
  rcases hv with rfl | rfl | rfl | rfl <;> rfl

/-- 'append(out, x)' of an item of one's own: w is the world ahead of the one-element slice. -/
theorem list_pushItem {ops : Array Oper} {rest : List Oper} {o : Oper} {a : Act} {Q : Exit → Act → World → Prop} {w : World} {lo n : Nat} {v : Value} {its : List ItA} (x : ItA) (h : OwnItems w lo w.heap.size v n its) (ho : Own 5 w lo w.heap.size x.slice x.n x.xs)
    (hxv : x.slice.ownBlock = none ∨ x.slice.ownBlock ≠ v.ownBlock) (hap : ∀ y ∈ its, y.slice.ownBlock = none ∨ y.slice.ownBlock ≠ x.slice.ownBlock) (hn : n ≤ 1048577) (hlo : lo ≤ w.heap.size)
    (s y : Operand) (hgd : o.guard = none) (hop : o.op = .call { callee := .builtin .append, args := #[s, y], argTypes := #[24, 24] }) (hs : a.eval s = v) (hy : a.eval y = .slice (some ⟨w.heap.size, 0, none⟩) 1 1)
    (K : ∀ g cap w', OwnItems w' lo w'.heap.size (.slice (some ⟨g, 0, none⟩) (n + 1) cap) (n + 1) (its ++ [x]) → Below lo w w' → wpList Try.prog ops Q rest (a.put o.dst (.slice (some ⟨g, 0, none⟩) (n + 1) cap)) w') :
    wpList Try.prog ops Q (o :: rest) a (w.alloc (.cells x.vals.toArray 26)) := by
  obtain ⟨i0, hi, hz0, hz1, hz2⟩ := info_parts infoItem
  have ha : w.grownBy (w.alloc (.cells x.vals.toArray 26)) v.ownBlock := World.grownBy_alloc w _ _
  have C := Cells.made w x.vals.toArray 26
  refine wpList_append_lies _ hgd s y 24 hop lo 26 i0 _ 4 56 Try.underlying24 hi hz0 hz1 hz2 rfl (by decide) v n (flatI its) hs (h.row.alloc _) ⟨w.heap.size, 0, none⟩ 1 1 x.vals hy rfl (fun j u hj => ?_) (vals_one x) (by decide) (by unfold maxLen; omega) (by omega) (by simp; omega) _ rfl ?_
  · rw [Addr.add_lit, Nat.zero_add, (C.2 j).1]
    simpa using hj
  · intro g cap w' h1 h2 h3 _
    have hg := ha.trans h2
    refine K g cap w' (h.push ho hxv hap h1 hg ?_) ((Below.refl _ _).grown hg hlo fun k hk => (h.row.lt k hk).1)
    rcases h3 with e | e
    · exact .inl e
    · exact .inr (by rw [e]; simp)

/-- A fresh item's bytes are apart from all that lies below them. -/
theorem fresh_apart {w w' : World} {lo n : Nat} {v : Value} {its : List ItA} (h : OwnItems w lo w.heap.size v n its) {x : ItA} (hx : Own 5 w' w.heap.size w'.heap.size x.slice x.n x.xs) :
    (x.slice.ownBlock = none ∨ x.slice.ownBlock ≠ v.ownBlock) ∧ ∀ y ∈ its, y.slice.ownBlock = none ∨ y.slice.ownBlock ≠ x.slice.ownBlock := by
  refine ⟨?_, fun y hy => ?_⟩
  · rcases hB : x.slice.ownBlock with _ | j
    · exact .inl rfl
    · right
      intro e
      have h1 := (hx.1.lt j hB).1
      have h2 := h.top j e.symm
      omega
  · rcases hB : y.slice.ownBlock with _ | j
    · exact .inl rfl
    · right
      intro e
      have h1 := (hx.1.lt j e.symm).1
      have h2 := (h.bytes y hy).2 j hB
      omega
/-- No item yet. -/
theorem OwnItems.none13 (w : World) (lo : Nat) (hlo : lo ≤ w.heap.size) : OwnItems (w.alloc (.cells #[] 26)) lo (w.alloc (.cells #[] 26)).heap.size (.slice (some ⟨w.heap.size, 0, none⟩) 0 0) 0 [] := by
  refine ⟨rfl, ⟨rfl, .inr ⟨w.heap.size, 0, #[], rfl, hlo, heap_made w _, Nat.le_refl _, Nat.zero_le _, rfl, rfl⟩⟩, fun k hk => ?_, fun x hx => by simp at hx, fun x hx => by simp at hx, List.Pairwise.nil⟩
  simp only [Value.ownBlock, Option.some.injEq] at hk
  subst hk
  simp

set_option maxHeartbeats 4000000 in
theorem l13Queue_own (p : Option Addr) (n c : Nat) (its : List ItA) (w : World) (hn : n ≤ 1048576) (hl : its.length = n) (h : ItemsIn w p n its) (li : ∀ x ∈ its, x.Lies w) (fit : ∀ x ∈ its, x.n ≤ 1048576) :
    Calls Try.prog 48 #[.slice p n c] w fun e w' => ∃ g c' its', e = .returned (.slice (some ⟨g, 0, none⟩) n c') ∧ OwnItems w' w.heap.size w'.heap.size (.slice (some ⟨g, 0, none⟩) n c') n its' ∧ Hid (its'.map ItA.con = its.map ItA.con) ∧ Below w.heap.size w w' := by
  have hN := OwnItems.none13 w w.heap.size (Nat.le_refl _)
  obtain ⟨w1, hw1⟩ : ∃ w1, w1 = w.alloc (.cells #[] 26) := ⟨_, rfl⟩
  have b1 : Below w.heap.size w w1 := by rw [hw1]; exact made_below _ _ (Below.refl _ _)
  rw [← hw1] at hN
  replace hw1 : Hid (w.alloc (.cells #[] 26) = w1) := hw1.symm
  go_enter Try.func48, Try.ntmps48
  go_wp2_with (rw [hw1.out])
  clear hw1
  go_loopw [3, 4] (fun a i wr => ∃ k : Nat, k ≤ n ∧ i = .int .i64 k ∧ (∃ (done : List ItA) (g cap : Nat), a = .slice (some ⟨g, 0, none⟩) k cap ∧ Hid (done.map ItA.con = (its.take k).map ItA.con) ∧ OwnItems wr w.heap.size wr.heap.size (.slice (some ⟨g, 0, none⟩) k cap) k done) ∧ Below w.heap.size w wr) (fun _ i _ => n - (intOf i).toNat)
  case atStart => exact ⟨0, Nat.zero_le _, rfl, ⟨[], w.heap.size, 0, rfl, rfl, hN⟩, b1⟩
  case round =>
    clear hN b1
    obtain ⟨k, hk, rfl, ⟨done, g, cap, rfl, hdc, hO⟩, hbel⟩ := hrel
    by_cases hlt : k < n
    · obtain ⟨b, o, rfl, hc⟩ := itemsIn_on h hbel (by omega)
      obtain ⟨x, hx⟩ : ∃ x, its.getD k default = x := ⟨_, rfl⟩
      obtain ⟨l0, l1, l2, l3⟩ := ItemsIn.at hc hlt hx
      have hxm : x ∈ its := hx ▸ getD_mem (by omega)
      have lx := (li x hxm).on hbel
      have hnx := fit x hxm
      replace hdc : Hid (done.map ItA.con ++ [x.con] = (its.take (k + 1)).map ItA.con) := by
        rw [Hid, take_getD (by omega), hx, List.map_append, hdc.out]; rfl
      obtain ⟨s, t, d, xp, xn, xc, xs⟩ := x
      dsimp only at l0 l1 l2 l3 hnx
      obtain ⟨_, lx1, lx2⟩ := lx
      dsimp only at lx1 lx2
      clear hx hxm hc h li fit
      go_wp2_with (fail)
      refine (l13Item_own s t d xp xn xc xs _ hnx lx1 lx2).mono ?_
      rintro z w2 ⟨p2, c2, rfl, r2, b2⟩
      have hO2 := (hO.on b2).wide (lo' := w.heap.size) (hi' := w2.heap.size) (Nat.le_refl _) b2.size
      have hap := fresh_apart hO (x := ⟨s, t, d, p2, xn, c2, xs⟩) r2
      have hbel2 := below_on hbel b2
      have hz2 := hbel2.size
      have hnew : Hid ((done ++ [(⟨s, t, d, p2, xn, c2, xs⟩ : ItA)]).map ItA.con = (its.take (k + 1)).map ItA.con) := by
        rw [Hid, List.map_append, ← hdc.out]; rfl
      have r2' : Own 5 w2 w.heap.size w2.heap.size (ItA.slice ⟨s, t, d, p2, xn, c2, xs⟩) xn xs := r2.wide hbel.size (Nat.le_refl _)
      clear hO b2 r2 hdc
      go_wp2_with (at_builtin; refine list_pushItem (w := w2) ⟨s, t, d, p2, xn, c2, xs⟩ hO2 r2' hap.1 hap.2 (by omega) hz2 _ _ rfl rfl rfl rfl ?_; intro g3 c3 w3 hO3 hb3)
      go_roundw
      case rel => exact ⟨k + 1, by omega, by go_num, ⟨_, g3, c3, rfl, hnew, hO3⟩, hbel2.trans hb3⟩
      case measure => simp [intOf]; omega
    · have hkn : k = n := by omega
      subst hkn
      have hall : Hid (done.map ItA.con = its.map ItA.con) := by rw [Hid, hdc.out, ← hl, List.take_length]
      clear hdc
      go_wp2_with (fail)
      go_ret
      exact ⟨_, _, done, rfl, hO, hall, hbel⟩

end Go.Proofs.Ytkdbcplcpcdnbaa
