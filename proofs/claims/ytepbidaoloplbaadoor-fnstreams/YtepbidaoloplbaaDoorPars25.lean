/-
  What the stand-in for Stream answers in the program of which it is a part, and what chk3 answers. Conditions: bytes.
  A run alone of Stream's stand-in that does not die: its arguments are slices of bytes and a number.
  Stream is a door: beside others it does what its stand-in does alone.
  A law that calls Stream: out of its run alone, in the program of doors, its run in the program itself, beside the goroutines that it starts: it ends, answers true, and leaves what was there; no data race; all that were started only leave.
-/
import Derived.Test.YtepbidaoloplbaaDoorPars16
import Derived.Test.YtepbidaoloplbaaDoorPars23
import Derived.Test.YtepbidaoloplbaaDoorPars11
import Derived.Test.YtepbidaoloplbaaDoorPars14
import Derived.Test.YtepbidaoloplbaaDoorPars13
import Derived.Test.YtepbidaoloplbaaDoorPars15
import Derived.Test.YtepbidaoloplbaaDoorPars24
import Derived.Test.YtepbidaoloplbaaDoorPars08
namespace Go.Proofs.YtepbidaoloplbaaDoor.Alt
open Go.RowKit
set_option maxRecDepth 100000

def Chk3 (n m k c d f : Nat) (ct : Int) (ks ns bs : List Int) : Prop := (n ≤ c ∧ n ≤ 9223372036854775807 ∧ m ≤ d ∧ m ≤ 9223372036854775807 ∧ k ≤ f ∧ k ≤ 9223372036854775807 ∧ ct ≤ 9223372036854775807) ∧ (∀ x ∈ ks, 0 ≤ x ∧ x < 256) ∧ (∀ x ∈ ns, 0 ≤ x ∧ x < 256) ∧ ∀ x ∈ bs, 0 ≤ x ∧ x < 256
theorem chk3_ntmps : chk3F.ntmps = 21 := rfl
set_option maxHeartbeats 4000000 in
theorem chk3_any (p q r : Option Addr) (n m k c d f : Nat) (ct : Int) (ks ns bs : List Int) (w : World) (hx : ks.length = n) (hy : ns.length = m) (hz : bs.length = k) (h : BytesIn w p n ks) (h' : BytesIn w q m ns) (h'' : BytesIn w r k bs) :
    Calls Altd.prog 83 #[.slice p n c, .int .i64 ct, .slice q m d, .slice r k f] w fun e w' => ∃ v, e = .returned v ∧ w' = w ∧ ((v = .bool true ∧ Chk3 n m k c d f ct ks ns bs) ∨ (v = .bool false ∧ ¬ Chk3 n m k c d f ct ks ns bs)) := by
  obtain ⟨i0, hi, hz0, hz1, hz2⟩ := info_parts infoByte
  by_cases c0 : n ≤ c
  · have g0 : (n : Int) ≤ (c : Int) := by omega
    by_cases c1 : n ≤ 9223372036854775807
    · have g1 : (n : Int) ≤ 9223372036854775807 := by omega
      by_cases c2 : m ≤ d
      · have g2 : (m : Int) ≤ (d : Int) := by omega
        by_cases c3 : m ≤ 9223372036854775807
        · have g3 : (m : Int) ≤ 9223372036854775807 := by omega
          by_cases c4 : k ≤ f
          · have g4 : (k : Int) ≤ (f : Int) := by omega
            by_cases c5 : k ≤ 9223372036854775807
            · have g5 : (k : Int) ≤ 9223372036854775807 := by omega
              by_cases c6 : ct ≤ 9223372036854775807
              · have g6 : ct ≤ 9223372036854775807 := by omega
                have K1 := fun (W : World) (hW : W = w) => chk_any (P := Altd.prog) Altd.func82 Altd.underlying22 Altd.underlying5 hi hz1 p n c ks W hx c1 (hW ▸ h)
                have K2 := fun (W : World) (hW : W = w) => chk_any (P := Altd.prog) Altd.func82 Altd.underlying22 Altd.underlying5 hi hz1 q m d ns W hy c3 (hW ▸ h')
                have K3 := fun (W : World) (hW : W = w) => chk_any (P := Altd.prog) Altd.func82 Altd.underlying22 Altd.underlying5 hi hz1 r k f bs W hz c5 (hW ▸ h'')
                by_cases b1 : ∀ x ∈ ks, 0 ≤ x ∧ x < 256
                · by_cases b2 : ∀ x ∈ ns, 0 ≤ x ∧ x < 256
                  · by_cases b3 : ∀ x ∈ bs, 0 ≤ x ∧ x < 256
                    · rw [decide_eq_true b1] at K1
                      rw [decide_eq_true b2] at K2
                      rw [decide_eq_true b3] at K3
                      clear h h' h'' hx hy hz
                      go_enter Altd.func83, chk3_ntmps
                      unfold chk3B
                      go_wp2_with (fail)
                      refine (K1 _ rfl).mono ?_
                      rintro e w1 ⟨rfl, rfl⟩
                      go_wp2_with (fail)
                      refine (K2 _ rfl).mono ?_
                      rintro e w2 ⟨rfl, rfl⟩
                      go_wp2_with (fail)
                      refine (K3 _ rfl).mono ?_
                      rintro e w3 ⟨rfl, rfl⟩
                      go_wp2_with (fail)
                      go_ret
                      exact ⟨_, rfl, rfl, .inl ⟨rfl, ⟨c0, c1, c2, c3, c4, c5, c6⟩, b1, b2, b3⟩⟩
                    · rw [decide_eq_true b1] at K1
                      rw [decide_eq_true b2] at K2
                      rw [decide_eq_false b3] at K3
                      clear h h' h'' hx hy hz
                      go_enter Altd.func83, chk3_ntmps
                      unfold chk3B
                      go_wp2_with (fail)
                      refine (K1 _ rfl).mono ?_
                      rintro e w1 ⟨rfl, rfl⟩
                      go_wp2_with (fail)
                      refine (K2 _ rfl).mono ?_
                      rintro e w2 ⟨rfl, rfl⟩
                      go_wp2_with (fail)
                      refine (K3 _ rfl).mono ?_
                      rintro e w3 ⟨rfl, rfl⟩
                      go_wp2_with (fail)
                      go_ret
                      exact ⟨_, rfl, rfl, .inr ⟨rfl, fun hh => b3 hh.2.2.2⟩⟩
                  · by_cases b3 : ∀ x ∈ bs, 0 ≤ x ∧ x < 256
                    · rw [decide_eq_true b1] at K1
                      rw [decide_eq_false b2] at K2
                      rw [decide_eq_true b3] at K3
                      clear h h' h'' hx hy hz
                      go_enter Altd.func83, chk3_ntmps
                      unfold chk3B
                      go_wp2_with (fail)
                      refine (K1 _ rfl).mono ?_
                      rintro e w1 ⟨rfl, rfl⟩
                      go_wp2_with (fail)
                      refine (K2 _ rfl).mono ?_
                      rintro e w2 ⟨rfl, rfl⟩
                      go_wp2_with (fail)
                      refine (K3 _ rfl).mono ?_
                      rintro e w3 ⟨rfl, rfl⟩
                      go_wp2_with (fail)
                      go_ret
                      exact ⟨_, rfl, rfl, .inr ⟨rfl, fun hh => b2 hh.2.2.1⟩⟩
                    · rw [decide_eq_true b1] at K1
                      rw [decide_eq_false b2] at K2
                      rw [decide_eq_false b3] at K3
                      clear h h' h'' hx hy hz
                      go_enter Altd.func83, chk3_ntmps
                      unfold chk3B
                      go_wp2_with (fail)
                      refine (K1 _ rfl).mono ?_
                      rintro e w1 ⟨rfl, rfl⟩
                      go_wp2_with (fail)
                      refine (K2 _ rfl).mono ?_
                      rintro e w2 ⟨rfl, rfl⟩
                      go_wp2_with (fail)
                      refine (K3 _ rfl).mono ?_
                      rintro e w3 ⟨rfl, rfl⟩
                      go_wp2_with (fail)
                      go_ret
                      exact ⟨_, rfl, rfl, .inr ⟨rfl, fun hh => b2 hh.2.2.1⟩⟩
                · by_cases b2 : ∀ x ∈ ns, 0 ≤ x ∧ x < 256
                  · by_cases b3 : ∀ x ∈ bs, 0 ≤ x ∧ x < 256
                    · rw [decide_eq_false b1] at K1
                      rw [decide_eq_true b2] at K2
                      rw [decide_eq_true b3] at K3
                      clear h h' h'' hx hy hz
                      go_enter Altd.func83, chk3_ntmps
                      unfold chk3B
                      go_wp2_with (fail)
                      refine (K1 _ rfl).mono ?_
                      rintro e w1 ⟨rfl, rfl⟩
                      go_wp2_with (fail)
                      refine (K2 _ rfl).mono ?_
                      rintro e w2 ⟨rfl, rfl⟩
                      go_wp2_with (fail)
                      refine (K3 _ rfl).mono ?_
                      rintro e w3 ⟨rfl, rfl⟩
                      go_wp2_with (fail)
                      go_ret
                      exact ⟨_, rfl, rfl, .inr ⟨rfl, fun hh => b1 hh.2.1⟩⟩
                    · rw [decide_eq_false b1] at K1
                      rw [decide_eq_true b2] at K2
                      rw [decide_eq_false b3] at K3
                      clear h h' h'' hx hy hz
                      go_enter Altd.func83, chk3_ntmps
                      unfold chk3B
                      go_wp2_with (fail)
                      refine (K1 _ rfl).mono ?_
                      rintro e w1 ⟨rfl, rfl⟩
                      go_wp2_with (fail)
                      refine (K2 _ rfl).mono ?_
                      rintro e w2 ⟨rfl, rfl⟩
                      go_wp2_with (fail)
                      refine (K3 _ rfl).mono ?_
                      rintro e w3 ⟨rfl, rfl⟩
                      go_wp2_with (fail)
                      go_ret
                      exact ⟨_, rfl, rfl, .inr ⟨rfl, fun hh => b1 hh.2.1⟩⟩
                  · by_cases b3 : ∀ x ∈ bs, 0 ≤ x ∧ x < 256
                    · rw [decide_eq_false b1] at K1
                      rw [decide_eq_false b2] at K2
                      rw [decide_eq_true b3] at K3
                      clear h h' h'' hx hy hz
                      go_enter Altd.func83, chk3_ntmps
                      unfold chk3B
                      go_wp2_with (fail)
                      refine (K1 _ rfl).mono ?_
                      rintro e w1 ⟨rfl, rfl⟩
                      go_wp2_with (fail)
                      refine (K2 _ rfl).mono ?_
                      rintro e w2 ⟨rfl, rfl⟩
                      go_wp2_with (fail)
                      refine (K3 _ rfl).mono ?_
                      rintro e w3 ⟨rfl, rfl⟩
                      go_wp2_with (fail)
                      go_ret
                      exact ⟨_, rfl, rfl, .inr ⟨rfl, fun hh => b1 hh.2.1⟩⟩
                    · rw [decide_eq_false b1] at K1
                      rw [decide_eq_false b2] at K2
                      rw [decide_eq_false b3] at K3
                      clear h h' h'' hx hy hz
                      go_enter Altd.func83, chk3_ntmps
                      unfold chk3B
                      go_wp2_with (fail)
                      refine (K1 _ rfl).mono ?_
                      rintro e w1 ⟨rfl, rfl⟩
                      go_wp2_with (fail)
                      refine (K2 _ rfl).mono ?_
                      rintro e w2 ⟨rfl, rfl⟩
                      go_wp2_with (fail)
                      refine (K3 _ rfl).mono ?_
                      rintro e w3 ⟨rfl, rfl⟩
                      go_wp2_with (fail)
                      go_ret
                      exact ⟨_, rfl, rfl, .inr ⟨rfl, fun hh => b1 hh.2.1⟩⟩
              · have g6 : ¬ ct ≤ 9223372036854775807 := by omega
                clear h h' h'' hx hy hz
                go_enter Altd.func83, chk3_ntmps
                unfold chk3B
                go_wp2
                go_ret
                exact ⟨_, rfl, rfl, .inr ⟨rfl, fun hh => by have := hh.1.2.2.2.2.2.2; omega⟩⟩
            · have g5 : ¬ (k : Int) ≤ 9223372036854775807 := by omega
              clear h h' h'' hx hy hz
              go_enter Altd.func83, chk3_ntmps
              unfold chk3B
              go_wp2
              go_ret
              exact ⟨_, rfl, rfl, .inr ⟨rfl, fun hh => by have := hh.1.2.2.2.2.2.1; omega⟩⟩
          · have g4 : ¬ (k : Int) ≤ (f : Int) := by omega
            clear h h' h'' hx hy hz
            go_enter Altd.func83, chk3_ntmps
            unfold chk3B
            go_wp2
            go_ret
            exact ⟨_, rfl, rfl, .inr ⟨rfl, fun hh => by have := hh.1.2.2.2.2.1; omega⟩⟩
        · have g3 : ¬ (m : Int) ≤ 9223372036854775807 := by omega
          clear h h' h'' hx hy hz
          go_enter Altd.func83, chk3_ntmps
          unfold chk3B
          go_wp2
          go_ret
          exact ⟨_, rfl, rfl, .inr ⟨rfl, fun hh => by have := hh.1.2.2.2.1; omega⟩⟩
      · have g2 : ¬ (m : Int) ≤ (d : Int) := by omega
        clear h h' h'' hx hy hz
        go_enter Altd.func83, chk3_ntmps
        unfold chk3B
        go_wp2
        go_ret
        exact ⟨_, rfl, rfl, .inr ⟨rfl, fun hh => by have := hh.1.2.2.1; omega⟩⟩
    · have g1 : ¬ (n : Int) ≤ 9223372036854775807 := by omega
      clear h h' h'' hx hy hz
      go_enter Altd.func83, chk3_ntmps
      unfold chk3B
      go_wp2
      go_ret
      exact ⟨_, rfl, rfl, .inr ⟨rfl, fun hh => by have := hh.1.2.1; omega⟩⟩
  · have g0 : ¬ (n : Int) ≤ (c : Int) := by omega
    clear h h' h'' hx hy hz
    go_enter Altd.func83, chk3_ntmps
    unfold chk3B
    go_wp2
    go_ret
    exact ⟨_, rfl, rfl, .inr ⟨rfl, fun hh => by have := hh.1.1; omega⟩⟩

/-- A row of k noughts, empty, with room for k, is filled. -/
theorem append_full {P : Program} (w : World) (t ty e : TypeId) (i : TypeInfo) (ht : P.underlying t = some (.slice e)) (hi : P.info? e = some i) (hs : i.size = 1) (k : Nat) (p : Option Addr) (c : Nat) (xs : List Int) (hx : xs.length = k) (h : BytesIn (w.alloc (.cells (madeCells #[.int .u8 0] k) e)) p k xs) :
    ∃ w', (Builtin.append_ #[t, t] ty #[.slice (some ⟨w.heap.size, 0, none⟩) 0 k, .slice p k c]).run P (w.alloc (.cells (madeCells #[.int .u8 0] k) e)) = .ok (.slice (some ⟨w.heap.size, 0, none⟩) k k) w' ∧ w'.heap[w.heap.size]? = some (.cells (xs.map (Value.int .u8)).toArray e (0, 0)) ∧ Below w.heap.size w w' := by
  have hsz : (madeCells #[Value.int .u8 0] k).size = k := by rw [← Array.length_toList, toList_madeCells_one]; simp
  rcases Nat.eq_zero_or_pos k with h0 | h0
  · subst h0
    obtain rfl : xs = [] := List.eq_nil_of_length_eq_zero hx
    refine ⟨_, append_empty _ t ty e i ht hi _ 0 0 p c (Nat.le_refl _), ?_, (Below.refl _ _).alloc (Nat.le_refl _) _⟩
    rw [heap_alloc_new, show madeCells #[Value.int .u8 0] 0 = #[] from Array.eq_empty_of_size_eq_zero hsz]
    rfl
  · obtain ⟨b, o, rfl, hc⟩ := h h0
    have hg := heap_alloc_new w (.cells (madeCells #[.int .u8 0] k) e)
    have hr := run_append_room (P := P) (w.alloc (.cells (madeCells #[.int .u8 0] k) e)) t ty e i ht hi w.heap.size 0 k _ hg ⟨b, o, none⟩ k c (xs.map (Value.int .u8)) (by simp [hs, hx]) (fun j u hu => by
      rw [List.getElem?_map] at hu
      obtain ⟨x, h1, rfl⟩ := Option.map_eq_some_iff.1 hu
      have hj : j < k := by rw [← hx]; exact (List.getElem?_eq_some_iff.1 h1).1
      rw [Addr.add_lit, hc j hj, List.getD_eq_getElem?_getD, h1]
      rfl) (ints_oneCell _ _) (by omega) (by rw [hsz]; simp [hx])
    have hd : List.drop (0 * i.size + (xs.map (Value.int .u8)).length) (madeCells #[Value.int .u8 0] k).toList = [] := List.drop_of_length_le (by rw [Array.length_toList, hsz]; simp [hx])
    rw [hd, Nat.zero_mul, List.take_zero, List.append_nil, List.nil_append, Nat.zero_add] at hr
    refine ⟨_, hr, setRow_heap _ _ _ _ _ _ hg, ⟨rfl, rfl, rfl, by simp, fun j hj => ?_⟩⟩
    rw [setRow_other _ _ _ _ (by omega)]
    exact Below.heap_alloc _ _ _ hj
set_option maxHeartbeats 8000000 in
theorem altStream_any (p q r : Option Addr) (n m k c d f : Nat) (ct : Int) (ks ns bs : List Int) (w : World) (hP : Chk3 n m k c d f ct ks ns bs) (hx : ks.length = n) (hy : ns.length = m) (hz : bs.length = k) (h : BytesIn w p n ks) (h' : BytesIn w q m ns) (h'' : BytesIn w r k bs) :
    Calls Altd.prog 8 #[.slice p n c, .int .i64 ct, .slice q m d, .slice r k f] w fun e w' => ∃ v, e = .returned v ∧ Below w.heap.size w w' ∧ ((¬ GoodT n m k ct ∧ v = .slice none 0 0) ∨ (GoodT n m k ct ∧ ∃ g, v = .slice (some ⟨g, 0, none⟩) k k ∧ w.heap.size ≤ g ∧ w'.heap[g]? = some (.cells ((strT ks ct ns bs).map (Value.int .u8)).toArray 5 (0, 0)))) := by
  obtain ⟨i0, hi, hz0, hz1, hz2⟩ := info_parts infoByte
  have K := fun (W : World) (hW : W = w) => chk3_any p q r n m k c d f ct ks ns bs W hx hy hz (hW ▸ h) (hW ▸ h') (hW ▸ h'')
  have T1 := text_of (P := Altd.prog) h hx c 22 5 9 Altd.underlying22 Altd.underlying5 Altd.underlying9
  have T2 := text_of (P := Altd.prog) h' hy d 22 5 9 Altd.underlying22 Altd.underlying5 Altd.underlying9
  have T3 := text_of (P := Altd.prog) h'' hz f 22 5 9 Altd.underlying22 Altd.underlying5 Altd.underlying9
  have c6 := hP.1.2.2.2.2.2.2
  have hkc := hP.1.2.2.2.2.1
  have hb1 := hP.2.1
  have hb2 := hP.2.2.1
  have K' : ∀ (W : World), W = w → Calls Altd.prog 83 #[.slice p n c, .int .i64 ct, .slice q m d, .slice r k f] W fun e w' => e = .returned (.bool true) ∧ w' = W := fun W hW => (K W hW).mono fun e w' ⟨v, e1, e2, e3⟩ => by
    rcases e3 with ⟨rfl, _⟩ | ⟨_, hn⟩
    · exact ⟨e1, e2⟩
    · exact absurd hP hn
  clear K hP
  by_cases q0 : n ≤ 32
  · have g0 : (n : Int) ≤ 32 := by omega
    by_cases q1 : 32 ≤ n
    · have g1 : (32 : Int) ≤ (n : Int) := by omega
      by_cases q2 : m ≤ 12
      · have g2 : (m : Int) ≤ 12 := by omega
        by_cases q3 : 12 ≤ m
        · have g3 : (12 : Int) ≤ (m : Int) := by omega
          by_cases q4 : k ≤ 4000
          · have g4 : (k : Int) ≤ 4000 := by omega
            by_cases q5 : 0 ≤ ct
            · have g5 : (0 : Int) ≤ ct := by omega
              obtain rfl : n = 32 := by omega
              obtain rfl : m = 12 := by omega
              obtain ⟨M, hM⟩ : ∃ M : Nat, M = (k + 63) / 64 := ⟨_, rfl⟩
              obtain ⟨a1, ha1⟩ : ∃ a1 : Nat, k + 63 = a1 := ⟨_, rfl⟩
              have e1 : (k : Int) + 63 = (a1 : Int) := by omega
              have e2 : (a1 : Int) / 64 = (M : Int) := by omega
              obtain ⟨a4, e4⟩ : ∃ a4 : Int, 4294967296 - ct = a4 := ⟨_, rfl⟩
              have l4 : -9223372036854775808 ≤ a4 ∧ a4 ≤ 4294967296 := by omega
              have l1 : a1 ≤ 4063 := by omega
              have lM : M ≤ 64 := by omega
              by_cases q6 : (M : Int) ≤ a4
              · have hg : GoodT 32 12 k ct := ⟨rfl, rfl, q4, q5, by omega⟩
                have hgl : GoodT ks.length ns.length bs.length ct := by rw [hx, hy, hz]; exact hg
                have hS := good_ok hgl
                have hl : (strT ks ct ns bs).length = k := by
                  rw [strT, out_same, outS_length, hz]
                  omega
                have CS := fun (W : World) (hW : W = w) => specStr_any p q r 32 12 k c d f ct ks ns bs W hkc hx hy hz (hW ▸ h) (hW ▸ h') (hW ▸ h'') hb1 hb2
                rw [hS] at CS
                have hmk : ∀ W : World, (Instr.makeSlice 22 (.int .i64 0) (.int .i64 (k : Int))).run Altd.prog W = .ok (.slice (some ⟨W.heap.size, 0, none⟩) 0 k) (W.alloc (.cells (madeCells #[.int .u8 0] k) 5)) := fun W => by
                  have := run_makeSlice (P := Altd.prog) W 22 5 i0 (.int .u8 0) Altd.underlying22 hi hz0 .i64 .i64 0 k (by omega) (by omega) (by rw [hz1]; simp; omega) (by rw [hz2]; omega) (by omega)
                  simpa [hz1, Value.cells] using this
                generalize strT ks ct ns bs = Z at hl CS ⊢
                replace hg : Hid (GoodT 32 12 k ct) := hg
                clear hgl hS h h' h'' hx hy hz hM ha1 hb1 hb2
                go_enter Altd.func8, Altd.ntmps8
                unfold strB
                go_wp2_with (fail)
                refine (K' _ rfl).mono ?_
                rintro e w1 ⟨rfl, rfl⟩
                clear K' T1 T2 T3
                go_wp2_with (fail)
                refine (CS _ rfl).mono ?_
                rintro e w2 ⟨p2, L, c2, rfl, r2, b2⟩
                clear CS
                have hL : L = k := by rw [← r2.len]; exact hl
                subst hL
                have hin := in_below r2.bytes ((Below.refl w2.heap.size w2).alloc (Nat.le_refl _) (.cells (madeCells #[.int .u8 0] L) 5))
                obtain ⟨w3, hrun, hrow, hb3⟩ := append_full (P := Altd.prog) w2 22 22 5 i0 Altd.underlying22 hi hz1 L p2 c2 Z hl hin
                have b4 := below_on b2 hb3
                have hgs := b2.size
                go_wp2_with (at_builtin; refine Lib.wpList_append_run _ rfl _ _ _ _ rfl _ _ rfl rfl _ _ hrun ?_)
                go_ret
                exact ⟨_, rfl, b4, .inr ⟨hg.out, _, rfl, hgs, hrow⟩⟩
              · have hno : ¬ GoodT 32 12 k ct := fun hh => by have := hh.2.2.2.2; omega
                clear hM ha1
                clear h h' h'' hx hy hz hb1 hb2
                go_enter Altd.func8, Altd.ntmps8
                unfold strB
                go_wp2_with (fail)
                refine (K' _ rfl).mono ?_
                rintro e w1 ⟨rfl, rfl⟩
                clear K' T1 T2 T3
                go_wp2_with (fail)
                go_ret
                exact ⟨_, rfl, Below.refl _ _, .inl ⟨hno, rfl⟩⟩
            · have g5 : ¬ (0 : Int) ≤ ct := by omega
              clear h h' h'' hx hy hz hb1 hb2
              go_enter Altd.func8, Altd.ntmps8
              unfold strB
              go_wp2_with (fail)
              refine (K' _ rfl).mono ?_
              rintro e w1 ⟨rfl, rfl⟩
              clear K' T1 T2 T3
              go_wp2_with (fail)
              go_ret
              exact ⟨_, rfl, Below.refl _ _, .inl ⟨fun hh => by have := hh.2.2.2.1; omega, rfl⟩⟩
          · have g4 : ¬ (k : Int) ≤ 4000 := by omega
            clear h h' h'' hx hy hz hb1 hb2
            go_enter Altd.func8, Altd.ntmps8
            unfold strB
            go_wp2_with (fail)
            refine (K' _ rfl).mono ?_
            rintro e w1 ⟨rfl, rfl⟩
            clear K' T1 T2 T3
            go_wp2_with (fail)
            go_ret
            exact ⟨_, rfl, Below.refl _ _, .inl ⟨fun hh => by have := hh.2.2.1; omega, rfl⟩⟩
        · have g3 : ¬ (12 : Int) ≤ (m : Int) := by omega
          clear h h' h'' hx hy hz hb1 hb2
          go_enter Altd.func8, Altd.ntmps8
          unfold strB
          go_wp2_with (fail)
          refine (K' _ rfl).mono ?_
          rintro e w1 ⟨rfl, rfl⟩
          clear K' T1 T2 T3
          go_wp2_with (fail)
          go_ret
          exact ⟨_, rfl, Below.refl _ _, .inl ⟨fun hh => by have := hh.2.1; omega, rfl⟩⟩
      · have g2 : ¬ (m : Int) ≤ 12 := by omega
        clear h h' h'' hx hy hz hb1 hb2
        go_enter Altd.func8, Altd.ntmps8
        unfold strB
        go_wp2_with (fail)
        refine (K' _ rfl).mono ?_
        rintro e w1 ⟨rfl, rfl⟩
        clear K' T1 T2 T3
        go_wp2_with (fail)
        go_ret
        exact ⟨_, rfl, Below.refl _ _, .inl ⟨fun hh => by have := hh.2.1; omega, rfl⟩⟩
    · have g1 : ¬ (32 : Int) ≤ (n : Int) := by omega
      clear h h' h'' hx hy hz hb1 hb2
      go_enter Altd.func8, Altd.ntmps8
      unfold strB
      go_wp2_with (fail)
      refine (K' _ rfl).mono ?_
      rintro e w1 ⟨rfl, rfl⟩
      clear K' T1 T2 T3
      go_wp2_with (fail)
      go_ret
      exact ⟨_, rfl, Below.refl _ _, .inl ⟨fun hh => by have := hh.1; omega, rfl⟩⟩
  · have g0 : ¬ (n : Int) ≤ 32 := by omega
    clear h h' h'' hx hy hz hb1 hb2
    go_enter Altd.func8, Altd.ntmps8
    unfold strB
    go_wp2_with (fail)
    refine (K' _ rfl).mono ?_
    rintro e w1 ⟨rfl, rfl⟩
    clear K' T1 T2 T3
    go_wp2_with (fail)
    go_ret
    exact ⟨_, rfl, Below.refl _ _, .inl ⟨fun hh => by have := hh.1; omega, rfl⟩⟩
end Go.Proofs.YtepbidaoloplbaaDoor.Alt

namespace Go.Proofs.YtepbidaoloplbaaDoor
open Go Go.Conc Go.RowKit
set_option maxRecDepth 100000

theorem run_val {P : Program} {s : Sem Value} {w w1 : World} {n : Next} (h : ((do pure (Next.value (← s))) : Sem Next).run P w = .ok n w1) : ∃ v, n = .value v ∧ s.run P w = .ok v w1 := by
  simp only [Sem.run_bind, Sem.run_pure] at h
  cases hs : s.run P w with
  | ok v w2 =>
    rw [hs] at h
    cases h
    exact ⟨v, rfl, rfl⟩
  | halt y w2 =>
    rw [hs] at h
    cases h
/-- Slices alike. -/
def SlR (ρ : Ren) (x x' : Value) : Prop := (x = .slice none 0 0 ∧ x' = .slice none 0 0) ∨ ∃ a a' n c, x = .slice (some a) n c ∧ x' = .slice (some a') n c ∧ RelA ρ a a'
theorem cap_are {P : Program} {t e ty : TypeId} {ρ : Ren} {x x' v : Value} {w w1 : World} (hu : P.underlying t = some (.slice e)) (hx : RelV ρ x x') (hr : (Builtin.cap_ #[t] ty #[x]).run P w = .ok v w1) : w1 = w ∧ SlR ρ x x' := by
  unfold Builtin.cap_ at hr
  cases hx with
  | sliceNil =>
    simp [run_underlying hu] at hr
    exact ⟨hr.2.symm, .inl ⟨rfl, rfl⟩⟩
  | slice n c h =>
    simp [run_underlying hu] at hr
    exact ⟨hr.2.symm, .inr ⟨_, _, _, _, rfl, rfl, h⟩⟩
  | _ => simp [run_underlying hu] at hr
theorem mul_are {P : Program} {t : TypeId} {ρ : Ren} {x x' v : Value} {w w1 : World} (hx : RelV ρ x x') (hr : (binOp .mul t x (.int .i64 1)).run P w = .ok v w1) : w1 = w ∧ ∃ z, x = .int .i64 z ∧ x' = .int .i64 z := by
  cases hx with
  | int k n =>
    simp only [binOp] at hr
    split at hr
    · simp at hr
    · rename_i hk
      have hk' : k = .i64 := Classical.byContradiction fun h => hk h
      subst hk'
      simp [Op.intArith] at hr
      exact ⟨hr.2.symm, n, rfl, rfl⟩
  | _ => simp [binOp] at hr
/-- Slices of bytes, the same in both worlds. -/
structure ByR (wg w : World) (x x' : Value) (p p' : Option Addr) (n c : Nat) (xs : List Int) : Prop where
  e : x = .slice p n c
  e' : x' = .slice p' n c
  len : xs.length = n
  g : BytesIn wg p n xs
  t : BytesIn w p' n xs
theorem conv_are {P : Program} {L : Nat} {Sh : Nat → Prop} {s d e : TypeId} {ρ : Ren} {x x' v : Value} {wg w w1 : World} (hw : RelW L Sh ρ wg w) (h1 : P.underlying s = some (.slice e)) (h2 : P.underlying d = some .string) (h3 : P.underlying e = some (.int .u8)) (hx : SlR ρ x x') (hr : (convert s d x).run P wg = .ok v w1) : w1 = wg ∧ ∃ p p' n c xs, ByR wg w x x' p p' n c xs := by
  unfold convert at hr
  rcases hx with ⟨rfl, rfl⟩ | ⟨a, a', n, c, rfl, rfl, ha⟩
  · simp [run_underlying h1, run_underlying h2, run_underlying h3, Conv.bytesToString] at hr
    exact ⟨hr.2.symm, none, none, 0, 0, [], rfl, rfl, rfl, fun h => absurd h (Nat.lt_irrefl 0), fun h => absurd h (Nat.lt_irrefl 0)⟩
  · simp only [run_underlying h1, run_underlying h2, run_underlying h3, Sem.run_bind, Result.andThen_ok] at hr
    obtain ⟨e1, xs, e2, e3⟩ := bytes_are hw ha hr
    refine ⟨e1, some a, some a', n, c, xs, rfl, rfl, e2, fun h0 => ?_, fun h0 => ?_⟩
    · obtain ⟨b, o, sp⟩ := a
      have k0 := (e3 0 (xs[0]'(by omega)) (List.getElem?_eq_getElem (by omega))).1
      have hsp : sp = none := by simpa [Addr.add] using World.cell?_spot k0
      subst hsp
      refine ⟨b, o, rfl, fun i hi => ?_⟩
      have k1 := (e3 i (xs[i]'(by omega)) (List.getElem?_eq_getElem (by omega))).1
      rw [Addr.add_lit] at k1
      rw [k1]
      simp [List.getElem?_eq_getElem (show i < xs.length by omega)]
    · obtain ⟨b, o, sp⟩ := a'
      have k0 := (e3 0 (xs[0]'(by omega)) (List.getElem?_eq_getElem (by omega))).2
      have hsp : sp = none := by simpa [Addr.add] using World.cell?_spot k0
      subst hsp
      refine ⟨b, o, rfl, fun i hi => ?_⟩
      have k1 := (e3 i (xs[i]'(by omega)) (List.getElem?_eq_getElem (by omega))).2
      rw [Addr.add_lit] at k1
      rw [k1]
      simp [List.getElem?_eq_getElem (show i < xs.length by omega)]

def bS : Frame := { (default : Frame) with fn := 8, kind := .normal }
def actS (x0 x1 x2 x3 v4 v5 v6 v7 v8 v9 v10 v11 v12 : Value) : Act := ⟨#[x0, x1, x2, x3, v4, v5, v6, v7, v8, v9, v10, v11, v12, undef, undef, undef, undef, undef, undef, undef, undef, undef, undef, undef, undef, undef, undef, undef, undef], []⟩
theorem enter_S (x0 x1 x2 x3 : Value) : Frame.enter Altd.prog 8 #[x0, x1, x2, x3] .normal = bS.at (actS x0 x1 x2 x3 undef undef undef undef undef undef undef undef undef) [.code strB] := by
  simp [Frame.enter, Frame.at, bS, actS, Altd.func8, strF]
instance kinA : Kin Altd.prog Tryd.prog := ⟨rfl⟩

section
variable {Sh : Nat → Prop} {Gl Gl0 : Globs} {Al Alg : Nat → Bool} {ρ : Ren} {wg w : World}

theorem door_lives (T : TameP Altd.prog Gl0 Alg) (hal : Alg 8 = true) {x0 x1 x2 x3 y0 y1 y2 y3 : Value} {st : List Frame} (hs : Sit 0 Tryd.prog Gl Al Sh ρ wg w) (h0 : RelV ρ x0 y0) (h1 : RelV ρ x1 y1) (h2 : RelV ρ x2 y2) (h3 : RelV ρ x3 y3) (hl : Live Altd.prog Gl0 Alg Sh ⟨Frame.enter Altd.prog 8 #[x0, x1, x2, x3] .normal, st, wg⟩) :
    ∃ p p' n c ks z q q' m d ns r r' k f bs, ByR wg w x0 y0 p p' n c ks ∧ x1 = .int .i64 z ∧ y1 = .int .i64 z ∧ ByR wg w x2 y2 q q' m d ns ∧ ByR wg w x3 y3 r r' k f bs ∧ Alt.Chk3 n m k c d f z ks ns bs := by
  have hG : ρ.G ≤ wg.heap.size := by rw [hs.hG.size]; exact hs.big
  have hub : Altd.prog.underlying 22 = some (.slice 5) := rfl
  have hus : Altd.prog.underlying 9 = some .string := rfl
  have huy : Altd.prog.underlying 5 = some (.int .u8) := rfl
  rw [enter_S] at hl
  unfold strB at hl
  have a1 := live_ctl hl rfl (fun _ => stepG_seq)
  have a2 := live_ctl a1 rfl (fun _ => stepG_region)
  clear hl a1
  obtain ⟨v4, w1, r4, a3⟩ := live_op T (i := 0) (rest := []) (o := _) a2 rfl hal rfl rfl rfl rfl (fun y w1 hh => by cases hh) (fun x w1 hh => by cases hh; exact ⟨_, rfl⟩)
  obtain ⟨rfl, rfl⟩ : v4 = .slice none 0 0 ∧ w1 = wg := by cases r4; exact ⟨rfl, rfl⟩
  clear a2 r4
  replace a3 : Live Altd.prog Gl0 Alg Sh ⟨bS.at (actS x0 x1 x2 x3 (.slice none 0 0) undef undef undef undef undef undef undef undef) _, st, w1⟩ := a3
  have a4 := live_ctl a3 rfl (fun _ => stepG_region_end)
  have a5 := live_ctl a4 rfl (fun _ => stepG_seq)
  have b0 := live_ctl a5 rfl (fun _ => stepG_region)
  clear a3 a4 a5
  have e0 : ∀ (y : Next) w2, ((do pure (Next.value (← Builtin.cap_ #[22] 3 #[x0]))) : Sem Next).run Altd.prog w1 = .ok y w2 → ∃ v, y = .value v := fun y w2 hh => let ⟨v, h1, _⟩ := run_val hh; ⟨v, h1⟩
  have t0 : ∀ (y : Halt) w2, ((do pure (Next.value (← Builtin.cap_ #[22] 3 #[x0]))) : Sem Next).run Altd.prog w1 = .halt y w2 → tame y = true := fun y w2 hh => SimS.halts (sim_value (sim_cap (Pg := Altd.prog) (P := Altd.prog) (by rfl) h0)) hs.rel hs.sh hG hh
  have q : execOp (actS x0 x1 x2 x3 (.slice none 0 0) undef undef undef undef undef undef undef undef).eval ({ dst := some 5, op := .call { callee := .builtin .cap, args := #[.tmp 0], argTypes := #[22] }, type := 3, pos := "", after := #[], guard := none } : Oper) = ((do pure (Next.value (← Builtin.cap_ #[22] 3 #[x0]))) : Sem Next) := by simp [execOp, resolve, invoke, builtin, Act.eval, actS]
  obtain ⟨v5, w2, r, b1⟩ := live_op T (i := 0) (rest := [1, 2, 3, 4, 5, 6, 7]) (o := { dst := some 5, op := .call { callee := .builtin .cap, args := #[.tmp 0], argTypes := #[22] }, type := 3, pos := "", after := #[], guard := none }) b0 rfl hal rfl rfl rfl rfl (fun y w2 hh => t0 y w2 (by rw [q] at hh; exact hh)) (fun y w2 hh => e0 y w2 (by rw [q] at hh; exact hh))
  rw [q] at r
  clear q
  obtain ⟨u, eu, ru⟩ := run_val r
  obtain rfl : v5 = u := by cases eu; rfl
  clear eu r e0 t0 b0
  obtain ⟨hw, s0⟩ := cap_are hub h0 ru
  clear ru
  replace hw := hw.symm
  subst hw
  replace b1 : Live Altd.prog Gl0 Alg Sh ⟨bS.at (actS x0 x1 x2 x3 (.slice none 0 0) v5 undef undef undef undef undef undef undef) _, st, _⟩ := b1
  have e1 : ∀ (y : Next) w2, ((do pure (Next.value (← Builtin.cap_ #[22] 3 #[x2]))) : Sem Next).run Altd.prog w1 = .ok y w2 → ∃ v, y = .value v := fun y w2 hh => let ⟨v, h1, _⟩ := run_val hh; ⟨v, h1⟩
  have t1 : ∀ (y : Halt) w2, ((do pure (Next.value (← Builtin.cap_ #[22] 3 #[x2]))) : Sem Next).run Altd.prog w1 = .halt y w2 → tame y = true := fun y w2 hh => SimS.halts (sim_value (sim_cap (Pg := Altd.prog) (P := Altd.prog) (by rfl) h2)) hs.rel hs.sh hG hh
  have q : execOp (actS x0 x1 x2 x3 (.slice none 0 0) v5 undef undef undef undef undef undef undef).eval ({ dst := some 6, op := .call { callee := .builtin .cap, args := #[.tmp 2], argTypes := #[22] }, type := 3, pos := "", after := #[], guard := none } : Oper) = ((do pure (Next.value (← Builtin.cap_ #[22] 3 #[x2]))) : Sem Next) := by simp [execOp, resolve, invoke, builtin, Act.eval, actS]
  obtain ⟨v6, w2, r, b2⟩ := live_op T (i := 1) (rest := [2, 3, 4, 5, 6, 7]) (o := { dst := some 6, op := .call { callee := .builtin .cap, args := #[.tmp 2], argTypes := #[22] }, type := 3, pos := "", after := #[], guard := none }) b1 rfl hal rfl rfl rfl rfl (fun y w2 hh => t1 y w2 (by rw [q] at hh; exact hh)) (fun y w2 hh => e1 y w2 (by rw [q] at hh; exact hh))
  rw [q] at r
  clear q
  obtain ⟨u, eu, ru⟩ := run_val r
  obtain rfl : v6 = u := by cases eu; rfl
  clear eu r e1 t1 b1
  obtain ⟨hw, s2⟩ := cap_are hub h2 ru
  clear ru
  replace hw := hw.symm
  subst hw
  replace b2 : Live Altd.prog Gl0 Alg Sh ⟨bS.at (actS x0 x1 x2 x3 (.slice none 0 0) v5 v6 undef undef undef undef undef undef) _, st, _⟩ := b2
  have e2 : ∀ (y : Next) w2, ((do pure (Next.value (← Builtin.cap_ #[22] 3 #[x3]))) : Sem Next).run Altd.prog w1 = .ok y w2 → ∃ v, y = .value v := fun y w2 hh => let ⟨v, h1, _⟩ := run_val hh; ⟨v, h1⟩
  have t2 : ∀ (y : Halt) w2, ((do pure (Next.value (← Builtin.cap_ #[22] 3 #[x3]))) : Sem Next).run Altd.prog w1 = .halt y w2 → tame y = true := fun y w2 hh => SimS.halts (sim_value (sim_cap (Pg := Altd.prog) (P := Altd.prog) (by rfl) h3)) hs.rel hs.sh hG hh
  have q : execOp (actS x0 x1 x2 x3 (.slice none 0 0) v5 v6 undef undef undef undef undef undef).eval ({ dst := some 7, op := .call { callee := .builtin .cap, args := #[.tmp 3], argTypes := #[22] }, type := 3, pos := "", after := #[], guard := none } : Oper) = ((do pure (Next.value (← Builtin.cap_ #[22] 3 #[x3]))) : Sem Next) := by simp [execOp, resolve, invoke, builtin, Act.eval, actS]
  obtain ⟨v7, w2, r, b3⟩ := live_op T (i := 2) (rest := [3, 4, 5, 6, 7]) (o := { dst := some 7, op := .call { callee := .builtin .cap, args := #[.tmp 3], argTypes := #[22] }, type := 3, pos := "", after := #[], guard := none }) b2 rfl hal rfl rfl rfl rfl (fun y w2 hh => t2 y w2 (by rw [q] at hh; exact hh)) (fun y w2 hh => e2 y w2 (by rw [q] at hh; exact hh))
  rw [q] at r
  clear q
  obtain ⟨u, eu, ru⟩ := run_val r
  obtain rfl : v7 = u := by cases eu; rfl
  clear eu r e2 t2 b2
  obtain ⟨hw, s3⟩ := cap_are hub h3 ru
  clear ru
  replace hw := hw.symm
  subst hw
  replace b3 : Live Altd.prog Gl0 Alg Sh ⟨bS.at (actS x0 x1 x2 x3 (.slice none 0 0) v5 v6 v7 undef undef undef undef undef) _, st, _⟩ := b3
  have e3 : ∀ (y : Next) w2, ((do pure (Next.value (← convert 22 9 x0))) : Sem Next).run Altd.prog w1 = .ok y w2 → ∃ v, y = .value v := fun y w2 hh => let ⟨v, h1, _⟩ := run_val hh; ⟨v, h1⟩
  have t3 : ∀ (y : Halt) w2, ((do pure (Next.value (← convert 22 9 x0))) : Sem Next).run Altd.prog w1 = .halt y w2 → tame y = true := fun y w2 hh => SimS.halts (sim_value (sim_convertBytes (Pg := Altd.prog) (P := Altd.prog) hub hus huy h0)) hs.rel hs.sh hG hh
  have q : execOp (actS x0 x1 x2 x3 (.slice none 0 0) v5 v6 v7 undef undef undef undef undef).eval ({ dst := some 8, op := .convert 22 9 (.tmp 0), type := 9, pos := "", after := #[], guard := none } : Oper) = ((do pure (Next.value (← convert 22 9 x0))) : Sem Next) := rfl
  obtain ⟨v8, w2, r, b4⟩ := live_op T (i := 3) (rest := [4, 5, 6, 7]) (o := { dst := some 8, op := .convert 22 9 (.tmp 0), type := 9, pos := "", after := #[], guard := none }) b3 rfl hal rfl rfl rfl rfl (fun y w2 hh => t3 y w2 (by rw [q] at hh; exact hh)) (fun y w2 hh => e3 y w2 (by rw [q] at hh; exact hh))
  rw [q] at r
  clear q
  obtain ⟨u, eu, ru⟩ := run_val r
  obtain rfl : v8 = u := by cases eu; rfl
  clear eu r e3 t3 b3
  obtain ⟨hw, p0, p0', n0, c0, xs0, B0⟩ := conv_are hs.rel hub hus huy s0 ru
  clear ru
  replace hw := hw.symm
  subst hw
  replace b4 : Live Altd.prog Gl0 Alg Sh ⟨bS.at (actS x0 x1 x2 x3 (.slice none 0 0) v5 v6 v7 v8 undef undef undef undef) _, st, _⟩ := b4
  have e4 : ∀ (y : Next) w2, ((do pure (Next.value (← convert 22 9 x2))) : Sem Next).run Altd.prog w1 = .ok y w2 → ∃ v, y = .value v := fun y w2 hh => let ⟨v, h1, _⟩ := run_val hh; ⟨v, h1⟩
  have t4 : ∀ (y : Halt) w2, ((do pure (Next.value (← convert 22 9 x2))) : Sem Next).run Altd.prog w1 = .halt y w2 → tame y = true := fun y w2 hh => SimS.halts (sim_value (sim_convertBytes (Pg := Altd.prog) (P := Altd.prog) hub hus huy h2)) hs.rel hs.sh hG hh
  have q : execOp (actS x0 x1 x2 x3 (.slice none 0 0) v5 v6 v7 v8 undef undef undef undef).eval ({ dst := some 9, op := .convert 22 9 (.tmp 2), type := 9, pos := "", after := #[], guard := none } : Oper) = ((do pure (Next.value (← convert 22 9 x2))) : Sem Next) := rfl
  obtain ⟨v9, w2, r, b5⟩ := live_op T (i := 4) (rest := [5, 6, 7]) (o := { dst := some 9, op := .convert 22 9 (.tmp 2), type := 9, pos := "", after := #[], guard := none }) b4 rfl hal rfl rfl rfl rfl (fun y w2 hh => t4 y w2 (by rw [q] at hh; exact hh)) (fun y w2 hh => e4 y w2 (by rw [q] at hh; exact hh))
  rw [q] at r
  clear q
  obtain ⟨u, eu, ru⟩ := run_val r
  obtain rfl : v9 = u := by cases eu; rfl
  clear eu r e4 t4 b4
  obtain ⟨hw, p2, p2', n2, c2, xs2, B2⟩ := conv_are hs.rel hub hus huy s2 ru
  clear ru
  replace hw := hw.symm
  subst hw
  replace b5 : Live Altd.prog Gl0 Alg Sh ⟨bS.at (actS x0 x1 x2 x3 (.slice none 0 0) v5 v6 v7 v8 v9 undef undef undef) _, st, _⟩ := b5
  have e5 : ∀ (y : Next) w2, ((do pure (Next.value (← convert 22 9 x3))) : Sem Next).run Altd.prog w1 = .ok y w2 → ∃ v, y = .value v := fun y w2 hh => let ⟨v, h1, _⟩ := run_val hh; ⟨v, h1⟩
  have t5 : ∀ (y : Halt) w2, ((do pure (Next.value (← convert 22 9 x3))) : Sem Next).run Altd.prog w1 = .halt y w2 → tame y = true := fun y w2 hh => SimS.halts (sim_value (sim_convertBytes (Pg := Altd.prog) (P := Altd.prog) hub hus huy h3)) hs.rel hs.sh hG hh
  have q : execOp (actS x0 x1 x2 x3 (.slice none 0 0) v5 v6 v7 v8 v9 undef undef undef).eval ({ dst := some 10, op := .convert 22 9 (.tmp 3), type := 9, pos := "", after := #[], guard := none } : Oper) = ((do pure (Next.value (← convert 22 9 x3))) : Sem Next) := rfl
  obtain ⟨v10, w2, r, b6⟩ := live_op T (i := 5) (rest := [6, 7]) (o := { dst := some 10, op := .convert 22 9 (.tmp 3), type := 9, pos := "", after := #[], guard := none }) b5 rfl hal rfl rfl rfl rfl (fun y w2 hh => t5 y w2 (by rw [q] at hh; exact hh)) (fun y w2 hh => e5 y w2 (by rw [q] at hh; exact hh))
  rw [q] at r
  clear q
  obtain ⟨u, eu, ru⟩ := run_val r
  obtain rfl : v10 = u := by cases eu; rfl
  clear eu r e5 t5 b5
  obtain ⟨hw, p3, p3', n3, c3, xs3, B3⟩ := conv_are hs.rel hub hus huy s3 ru
  clear ru
  replace hw := hw.symm
  subst hw
  replace b6 : Live Altd.prog Gl0 Alg Sh ⟨bS.at (actS x0 x1 x2 x3 (.slice none 0 0) v5 v6 v7 v8 v9 v10 undef undef) _, st, _⟩ := b6
  have hGf : Fits Altd.prog ρ := ⟨hs.hG.size, hs.hG.bog⟩
  have e6 : ∀ (y : Next) w2, ((do pure (Next.value (← (do eqGuard .mul 3 (.tmp 1) (.const (.int .i64 1)) x1 (.int .i64 1); binOp .mul 3 x1 (.int .i64 1) : Sem Value)))) : Sem Next).run Altd.prog w1 = .ok y w2 → ∃ v, y = .value v := fun y w2 hh => let ⟨v, h1, _⟩ := run_val hh; ⟨v, h1⟩
  have t6 : ∀ (y : Halt) w2, ((do pure (Next.value (← (do eqGuard .mul 3 (.tmp 1) (.const (.int .i64 1)) x1 (.int .i64 1); binOp .mul 3 x1 (.int .i64 1) : Sem Value)))) : Sem Next).run Altd.prog w1 = .halt y w2 → tame y = true := fun y w2 hh => SimS.halts (sim_value ((sim_eqGuard (Pg := Altd.prog) (P := Altd.prog) .mul (t := 3) (x := .tmp 1) (y := .const (.int .i64 1)) (by rfl) h1 (.int .i64 1) (fun h => by cases h)).bd fun ρ1 _ _ hle _ => sim_binOp (Pg := Altd.prog) (P := Altd.prog) (hGf.mono hle) .mul (by decide) 3 (h1.mono hle) (.int .i64 1))) hs.rel hs.sh hG hh
  have q : execOp (actS x0 x1 x2 x3 (.slice none 0 0) v5 v6 v7 v8 v9 v10 undef undef).eval ({ dst := some 11, op := .binOp .mul 3 (.tmp 1) (.const (.int .i64 1)) 3, type := 3, pos := "", after := #[], guard := none } : Oper) = ((do pure (Next.value (← (do eqGuard .mul 3 (.tmp 1) (.const (.int .i64 1)) x1 (.int .i64 1); binOp .mul 3 x1 (.int .i64 1) : Sem Value)))) : Sem Next) := rfl
  obtain ⟨v11, w2, r, b7⟩ := live_op T (i := 6) (rest := [7]) (o := { dst := some 11, op := .binOp .mul 3 (.tmp 1) (.const (.int .i64 1)) 3, type := 3, pos := "", after := #[], guard := none }) b6 rfl hal rfl rfl rfl rfl (fun y w2 hh => t6 y w2 (by rw [q] at hh; exact hh)) (fun y w2 hh => e6 y w2 (by rw [q] at hh; exact hh))
  rw [q] at r
  clear q
  obtain ⟨u, eu, ru⟩ := run_val r
  obtain rfl : v11 = u := by cases eu; rfl
  clear eu r e6 t6 b6
  have ru' : (binOp .mul 3 x1 (.int .i64 1)).run Altd.prog w1 = .ok v11 w2 := ru
  obtain ⟨hw, z, ez, ez'⟩ := mul_are h1 ru'
  clear ru'
  clear ru
  replace hw := hw.symm
  subst hw
  replace b7 : Live Altd.prog Gl0 Alg Sh ⟨bS.at (actS x0 x1 x2 x3 (.slice none 0 0) v5 v6 v7 v8 v9 v10 v11 undef) _, st, _⟩ := b7
  have hen := live_enter (i := 7) (rest := []) (f := 83) (x := #[x0, x1, x2, x3]) (o := { dst := some 12, op := .call { callee := .value (.func 83), args := #[.tmp 0, .tmp 1, .tmp 2, .tmp 3], argTypes := #[22, 3, 22, 22] }, type := 4, pos := "", after := #[], guard := none }) b7 hal rfl rfl rfl rfl (by simp [execOp, resolve, invoke, Act.eval, actS, Deferred.ofValue])
  clear b7
  have C := Alt.chk3_any p0 p2 p3 n0 n2 n3 c0 c2 c3 z xs0 xs2 xs3 _ B0.len B2.len B3.len B0.g B2.g B3.g
  rw [← B0.e, ← B2.e, ← B3.e, ← ez] at C
  obtain ⟨v, w3, ⟨rfl, hv⟩, hfin⟩ := live_call T hen (Post := fun v w' => w' = _ ∧ _) (C.mono fun e w' ⟨v, h1, h2, h3⟩ => ⟨v, h1, h2, h3⟩)
  refine ⟨p0, p0', n0, c0, xs0, z, p2, p2', n2, c2, xs2, p3, p3', n3, c3, xs3, B0, ez, ez', B2, B3, ?_⟩
  rcases hv with ⟨_, hP⟩ | ⟨rfl, hP⟩
  · exact hP
  · exfalso
    clear C hen
    rw [Frame.finish_at] at hfin
    have d1 := live_ctl (a1 := actS x0 x1 x2 x3 (.slice none 0 0) v5 v6 v7 v8 v9 v10 v11 (.bool false)) hfin rfl (fun _ => stepG_region_end)
    have d2 := live_ctl d1 rfl (fun _ => stepG_seq)
    have d3 := live_ctl d2 rfl (fun _ => stepG_cond (t := false) (by rfl))
    have d4 := live_ctl d3 rfl (fun _ => stepG_region)
    obtain ⟨v, w4, r, _⟩ := live_op T (i := 0) (rest := []) d4 rfl hal rfl rfl rfl rfl (fun y w1 hh => (dead_left (dead_panic (Pg := Altd.prog) (.bool true))).2 _ _ _ hh) (fun x w1 hh => absurd hh ((dead_left (dead_panic (Pg := Altd.prog) (.bool true))).1 _ _ _))
    exact (dead_left (dead_panic (Pg := Altd.prog) (.bool true))).1 _ _ _ r
end

end Go.Proofs.YtepbidaoloplbaaDoor

namespace Go.Proofs.YtepbidaoloplbaaDoor
open Go Go.Conc Go.RowKit
set_option maxRecDepth 100000

/-- A world in which the table lies as its text says. -/
def TabW (W : World) : Prop := ∃ (C : Array Value) (e : TypeId), TableIn C e W ∧ (∀ v ∈ C, flatC v = true) ∧ ∀ (j : Nat) v, placesC[j]? = some v → C[j]? = some v
theorem ByR.bytesT {wg w : World} {x x' : Value} {p p' : Option Addr} {n c : Nat} {xs : List Int} (h : ByR wg w x x' p p' n c xs) (hc : n ≤ c) (hb : ∀ x ∈ xs, 0 ≤ x ∧ x < 256) : BytesT w p' n c xs :=
  ⟨h.len, hc, hb, fun h0 => by
    obtain ⟨b, o, e, hcell⟩ := h.t h0
    refine ⟨b, o, e, fun j u hu => ?_⟩
    have hj := (List.getElem?_eq_some_iff.1 hu).1
    rw [hcell j (by rw [← h.len]; exact hj), List.getD_eq_getElem?_getD, hu]
    rfl⟩

section
variable {Sh : Nat → Prop} {Gl Gl0 : Globs} {Al Alg : Nat → Bool} {n0' : Nat} {W' : World}
theorem door_is (T : TameP Altd.prog Gl0 Alg) (hal : Alg 8 = true) (hd : ∀ f n, Gl.d f n = true → f = 8 ∧ n = 4) (hW : TabW W') (hn0 : 0 < n0') : DoorIs Altd.prog Tryd.prog Gl Gl0 Al Alg Sh n0' W' := by
  intro f x x' ρ wg w' hf hx hs hst hlow hlive
  obtain ⟨rfl, h4⟩ := hd f x.size hf
  obtain ⟨st, hl⟩ := hlive.live
  obtain ⟨x0, x1, x2, x3, rfl⟩ : ∃ x0 x1 x2 x3, x = #[x0, x1, x2, x3] := ⟨x[0], x[1], x[2], x[3], by
    apply Array.ext
    · exact h4
    · intro i h1 h2
      match i, h2 with
      | 0, _ => rfl
      | 1, _ => rfl
      | 2, _ => rfl
      | 3, _ => rfl⟩
  have h4' : x'.size = 4 := hx.1.symm
  obtain ⟨y0, y1, y2, y3, rfl⟩ : ∃ y0 y1 y2 y3, x' = #[y0, y1, y2, y3] := ⟨x'[0], x'[1], x'[2], x'[3], by
    apply Array.ext
    · exact h4'
    · intro i h1 h2
      match i, h2 with
      | 0, _ => rfl
      | 1, _ => rfl
      | 2, _ => rfl
      | 3, _ => rfl⟩
  obtain ⟨p, p', n, c, ks, z, q, q', m, d, ns, r, r', k, f, bs, B0, rfl, rfl, B2, B3, hP⟩ := door_lives T hal hs (hx.2 0 _ _ rfl rfl) (hx.2 1 _ _ rfl rfl) (hx.2 2 _ _ rfl rfl) (hx.2 3 _ _ rfl rfl) hl
  obtain ⟨e0, e0', l0, g0, t0⟩ := id B0
  obtain ⟨e2, e2', l2, g2, t2⟩ := id B2
  obtain ⟨e3, e3', l3, g3, t3⟩ := id B3
  subst e0 e0' e2 e2' e3 e3'
  refine ⟨fun v w1g => (wg.heap.size ≤ w1g.heap.size ∧ ∀ b, b < wg.heap.size → w1g.heap[b]? = wg.heap[b]?) ∧ ((¬ GoodT n m k z ∧ v = .slice none 0 0) ∨ (GoodT n m k z ∧ ∃ g, v = .slice (some ⟨g, 0, none⟩) k k ∧ wg.heap.size ≤ g ∧ w1g.heap[g]? = some (.cells ((strT ks z ns bs).map (Value.int .u8)).toArray 5 (0, 0)))), fun τ => ?_, fun cf cs => ?_⟩
  · exact (Alt.altStream_any p q r n m k c d f z ks ns bs (World.ret wg τ) hP l0 l2 l3 g0 g2 g3).mono fun e w1 ⟨v, h1, h2, h3⟩ => ⟨v, h1, ⟨h2.size, h2.block⟩, h3⟩
  · obtain ⟨C, e, hT, hC, hCp⟩ := hW
    have hT' : TableIn C e w' := by
      obtain ⟨lo, hi, h, hl⟩ := hT
      exact ⟨lo, hi, (hst.heap _ hn0).trans h, hl⟩
    refine (stream_bes p' q' r' n c m d k f z ks ns bs cf cs C e w' (B0.bytesT hP.1.1 hP.2.1) (B2.bytesT hP.1.2.2.1 hP.2.2.1) (B3.bytesT hP.1.2.2.2.2.1 hP.2.2.2) hP.1.2.2.2.2.2.2 hT' hC hCp).bind fun g1 w1 ⟨v', h1, hk, h2⟩ => .now ⟨v', h1, ⟨fun b hb _ => hk.heap b hb, hk.size, hk.os, hk.output, hk.tape⟩, fun v w1g ⟨⟨hz, hbel⟩, hpost⟩ => ?_⟩
    have hrel := hs.rel
    have objs : ∀ b b', ρ b b' → ∃ o o', w1g.heap[b]? = some o ∧ w1.heap[b']? = some o' ∧ RelO ρ (ρ.lo b) o o' := fun b b' hb => by
      obtain ⟨o, o', k1, k2, k3⟩ := hrel.obj b b' hb
      exact ⟨o, o', (hbel b (hrel.lt hb).1).trans k1, (hk.heap b' (hrel.lt hb).2).trans k2, k3⟩
    have shar : ∀ b b', Sh b → ρ b b' → ∃ c e hi, w1g.heap[b]? = some (.cells c e (0, hi)) ∧ c.size ≤ hi := fun b b' hS hb => by
      obtain ⟨c, e, hi, k1, k2⟩ := hrel.shared b b' hS hb
      exact ⟨c, e, hi, (hbel b (hrel.lt hb).1).trans k1, k2⟩
    have hk0 := hk.size
    rcases hpost with ⟨hno, rfl⟩ | ⟨hg, g, rfl, hgs, hrow⟩
    · rcases h2 with ⟨_, rfl⟩ | ⟨hg, _⟩
      · exact ⟨ρ, .refl _, .sliceNil, ⟨⟨objs, hrel.fn, hrel.inj, fun b hb => hrel.low0 b (by omega), fun i q h => absurd h (Nat.not_lt_zero _), shar⟩, fun b hb => Nat.lt_of_lt_of_le (hs.sh b hb) hz, hs.hG, hs.hA, hs.hD, hs.gl, Nat.le_trans hs.big hz⟩, fun b b' h => .inl h, hz⟩
      · exact absurd hg hno
    · rcases h2 with ⟨hno, _⟩ | ⟨_, τ, rfl, hτ, hrow'⟩
      · exact absurd hg hno
      · obtain ⟨ρ1, hρ1⟩ : ∃ ρ1 : Ren, ρ1 = { ρ with r := fun b b' => ρ b b' ∨ (b = g ∧ b' = τ) } := ⟨_, rfl⟩
        have hle : ρ.le ρ1 := by subst hρ1; exact ⟨rfl, rfl, fun b b' h => .inl h, rfl, rfl, rfl⟩
        have hr1 : ∀ b b', ρ1 b b' ↔ ρ b b' ∨ (b = g ∧ b' = τ) := fun b b' => by subst hρ1; exact .rfl
        have hlo : ρ1.lo = ρ.lo := hle.lo
        have hlg : ρ.lo g = 0 := hrel.low0 g hgs
        have hgt : ρ1 g τ := (hr1 g τ).2 (.inr ⟨rfl, rfl⟩)
        have hflat : RelR ρ1 ((strT ks z ns bs).map (Value.int .u8)).toArray ((strT ks z ns bs).map (Value.int .u8)).toArray := ⟨rfl, fun i v v' k1 k2 => by
          rw [k1] at k2
          cases k2
          simp only [List.getElem?_toArray, List.getElem?_map] at k1
          obtain ⟨x, _, rfl⟩ := Option.map_eq_some_iff.1 k1
          exact .int _ _⟩
        refine ⟨ρ1, hle, .slice _ _ ⟨hgt, rfl, rfl, fun h => absurd h ?_, by rw [hlo]; show ρ.lo g ≤ 0 + 1; omega⟩, ⟨⟨fun b b' hb => ?_, fun b b' c' h1 h2 => ?_, fun b c b' h1 h2 => ?_, fun b hb => by rw [hlo]; exact hrel.low0 b (by omega), fun i q h => absurd h (Nat.not_lt_zero _), fun b b' hS hb => ?_⟩, fun b hb => Nat.lt_of_lt_of_le (hs.sh b hb) hz, hs.hG.mono hle, hle.2.1.trans hs.hA, hle.dd.trans hs.hD, fun x hx => ⟨hle.app (hs.gl x hx).1, by rw [hlo]; exact (hs.gl x hx).2⟩, Nat.le_trans hs.big hz⟩, fun b b' hb => ?_, hz⟩
        · have e1 := hle.1
          have e2 := hs.hG.size
          have e3 := hs.big
          show ¬ g < ρ1.G
          omega
        · rcases (hr1 b b').1 hb with h | ⟨rfl, rfl⟩
          · obtain ⟨o, o', k1, k2, k3⟩ := objs b b' h
            exact ⟨o, o', k1, k2, by rw [hlo]; exact k3.mono hle⟩
          · exact ⟨_, _, hrow, hrow', .cells _ (by rw [hlo]; exact hlg) hflat (fun i _ h => absurd h (Nat.not_lt_zero _))⟩
        · rcases (hr1 b b').1 h1 with k1 | ⟨e1, e1'⟩ <;> rcases (hr1 b c').1 h2 with k2 | ⟨e2, e2'⟩
          · exact hrel.fn b b' c' k1 k2
          · have := (hrel.lt k1).1; omega
          · have := (hrel.lt k2).1; omega
          · exact e1'.trans e2'.symm
        · rcases (hr1 b b').1 h1 with k1 | ⟨e1, e1'⟩ <;> rcases (hr1 c b').1 h2 with k2 | ⟨e2, e2'⟩
          · exact hrel.inj b c b' k1 k2
          · have := (hrel.lt k1).2; omega
          · have := (hrel.lt k2).2; omega
          · exact .inl (e1.trans e2.symm)
        · rcases (hr1 b b').1 hb with h | ⟨rfl, rfl⟩
          · exact shar b b' hS h
          · exact absurd (hs.sh b hS) (by omega)
        · rcases (hr1 b b').1 hb with h | ⟨rfl, rfl⟩
          · exact .inl h
          · exact .inr ⟨hgs, hτ⟩
end

end Go.Proofs.YtepbidaoloplbaaDoor

namespace Go.Proofs.YtepbidaoloplbaaDoor
open Go Go.Conc Go.RowKit

theorem acc_tg {α : Type} {r : α → α → Prop} {a : α} (h : Acc r a) : Acc (Relation.TransGen r) a := by
  induction h with
  | intro x _ ih =>
    refine ⟨x, fun y hy => ?_⟩
    cases hy with
    | single h => exact ih _ h
    | tail h1 h2 => exact (ih _ h2).inv h1
theorem results_one {P : Program} {fn : Func} {t : Nat} (hres : fn.results = #[.tmp t]) (tmps : Array Value) (w : World) : (results fn tmps).runT P w #[] = (.ok (tmps.getD t undef) w, #[]) := by
  simp [results, hres]

section
variable {Sh : Nat → Prop} {Gl Gl0 : Globs} {Al Alg : Nat → Bool} {ρ0 : Ren} {wg W : World} {f : FuncId} {fn : Func} {t : Nat} {args args' : Array Value}
theorem law_ends (T2 : Tame2 Altd.prog Tryd.prog Gl Al) (Tg : TameP Altd.prog Gl0 Alg) (hAA : ∀ f, Al f = true → Alg f = true) (hal : Alg 8 = true) (hd : ∀ f n, Gl.d f n = true → f = 8 ∧ n = 4) (hgl : ∀ g, Gl0 g = true → Gl g = true) (hf : Al f = true) (hfn : Tryd.prog.funcs[f]? = some fn) (hres : fn.results = #[.tmp t]) (hini : Tryd.prog.inits.idxOf? f = none)
    (hC : ∀ τ, Calls Altd.prog f args (World.ret wg τ) fun e _ => e = .returned (.bool true)) (hs : Sit 0 Tryd.prog Gl Al Sh ρ0 wg W) (hargs : RelR ρ0 args args') (hSh0 : ∀ b b', ρ0 b b' → Sh b) (hW : TabW W) (hn0 : 0 < W.heap.size) :
    ∃ M last o w' t', runNT Tryd.prog (M + 1) (solo (G (Frame.enter Tryd.prog f args' .normal) []) W) #[] = (.ended o w', t') ∧ runN Tryd.prog M (solo (G (Frame.enter Tryd.prog f args' .normal) []) W) = .next last ∧ step Tryd.prog last = .ended o w' ∧ Go.Conc.Good Tryd.prog (fun v w1 => v = .bool true ∧ Below W.heap.size W w1) last o w' t' := by
  have hF := RelF.enter2 (ρ := ρ0) T2 hf hargs
  have hA0 : ∀ f, ρ0.A f → Alg f = true := fun f h => hAA f (by rw [hs.hA] at h; exact h)
  have hsA : Sit 0 Altd.prog Gl0 Alg Sh _ wg W := hs.up (Pg := Altd.prog) hAA hgl
  have hpart : Part Altd.prog Gl0 Alg Sh ⟨Frame.enter Altd.prog f args .normal, [], wg⟩ := ⟨0, _, _, [], W, hsA, RelF.enter Tg (hAA f hf) (hargs.up hA0), .nil⟩
  have hgood : Good Altd.prog (fun sE => sE.fr.fn = f ∧ EndE Altd.prog (fun v _ => v = .bool true) sE) wg.drawn ⟨Frame.enter Altd.prog f args .normal, [], wg⟩ := fun τ _ => by
    obtain ⟨e, w1, fr, rfl, ⟨n, hn⟩, hfn, hlv⟩ := hC τ [c0 Altd.prog]
    exact ⟨n, ⟨fr, [], w1⟩, hn, ⟨rfl, hlv.1⟩, hfn, .bool true, hlv, rfl⟩
  have B := law_beside (n0 := wg.heap.size) (n0' := W.heap.size) (W' := W) T2 Tg hAA (door_is Tg hal hd hW hn0) hSh0 _ (acc_tg (good_acc Tg hpart hgood (Nat.le_refl _))) ρ0 _ [] W hpart hgood (Nat.le_refl _) ⟨hs, hF, .nil, .refl _, fun b b' h => .inl h, Nat.le_refl _, Nat.le_refl _, .refl _ _⟩
  obtain ⟨N, gs1, w1, sl1, t1, hr, g1, q1, h0, ⟨sE, ρ1, frE, rfl, hdon, ⟨hfe, v, hlv, rfl⟩, A⟩, hL, hP⟩ := B #[G (Frame.enter Tryd.prog f args' .normal) []] none #[] (fun _ => 0) rfl (LeavX.of_leavers (leavers_one _ _)) (past_nil.mono (Nat.zero_le _))
  have hfr := A.fr
  obtain ⟨l1, l2, l3, fn', l4, l5⟩ := hlv
  obtain ⟨fn2, body, b1, b2, _⟩ := T2.body f hf
  rw [hfe, b1] at l4
  rw [hfn] at b2
  cases b2
  cases l4
  have e1 : sE.fr.tmps.getD t undef = .bool true := by
    rw [← Sem.runT_fst Altd.prog _ _ #[], results_one hres] at l5
    exact (Result.ok.inj l5).1
  have e2 : frE.tmps.getD t undef = .bool true := by
    have := hfr.tmps.getD t rel_undef
    rw [e1] at this
    generalize frE.tmps.getD t undef = y at this
    cases this
    rfl
  have hend : ∀ w2, AtRel w1 w2 → AtEnd Tryd.prog (fun _ => False) w1.heap.size (fun v w' => v = .bool true ∧ Below W.heap.size W w') (G frE []) w2 := by
    rintro w2 ⟨d, rfl⟩
    have m1 : frE.mode = .returning := hfr.mode.trans l1
    have m2 : frE.fn = f := hfr.fn.trans hfe
    have m3 : Tryd.prog.funcs[frE.fn]? = some fn := by rw [m2]; exact hfn
    refine ⟨rfl, .bool true, #[], ?_, by simp, rfl, A.stays.os, A.stays.tape, A.stays.output, A.stays.size, A.stays.heap⟩
    simp only [stepG, G, m1, unwind, hfr.defers', m3, results_one hres, e2, GStep.after, doReturn, hfr.kind']
    rw [m2, hini, if_neg (by decide), seen_none]
    rfl
  obtain ⟨N', last, o, w', t', e4, e5, e6, e7⟩ := beside_ends (P := Tryd.prog) (D := fun _ _ _ => False) (n := 0) (sl := sl1) (fun _ _ _ h => h.elim) h0 hL.leavers hP hend
  refine ⟨N + N', last, o, w', t', ?_, ?_, e6, e7⟩
  · rw [Nat.add_assoc, runNT_add]
    rw [show runNT Tryd.prog N (solo (G (Frame.enter Tryd.prog f args' .normal) []) W) #[] = (.next (crowd gs1 w1 sl1), t1) from hr]
    exact e4
  · rw [runN_add]
    rw [show runN Tryd.prog N (solo (G (Frame.enter Tryd.prog f args' .normal) []) W) = .next (crowd gs1 w1 sl1) by rw [← runNT_fst _ _ _ #[]]; exact congrArg Prod.fst hr]
    exact e5
end

end Go.Proofs.YtepbidaoloplbaaDoor
