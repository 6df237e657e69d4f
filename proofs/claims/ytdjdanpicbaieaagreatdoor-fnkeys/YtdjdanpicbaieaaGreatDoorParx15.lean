/-
  Epochs: whether one has keys, and how an epoch is told behind a word, in the program and in the specification. Conditions: each fact's own.
-/
import Derived.Test.YtdjdanpicbaieaaGreatDoorParx02
import Derived.Test.YtdjdanpicbaieaaGreatDoorParx14
import Derived.Test.YtdjdanpicbaieaaGreatDoorParx13
import Derived.Lib.SlBytesConst
import Derived.Lib.ConvBytes
import Derived.ArgAppend
namespace Go.Proofs.YtdjdanpicbaieaaGreatDoor
open Go.RowKit
set_option maxRecDepth 100000

/-- 'epoch', 'route' -/
def epochL : List Int := [101, 112, 111, 99, 104]
def routeL : List Int := [114, 111, 117, 116, 101]
theorem epochL_byte : ∀ x ∈ epochL, 0 ≤ x ∧ x < 256 := by decide
theorem routeL_byte : ∀ x ∈ routeL, 0 ≤ x ∧ x < 256 := by decide
/-- An epoch behind a word. -/
def tellL (info : List Int) (e : Int) : List Int := info ++ (fitL e 2).reverse
/-- Is there a key of so many bytes' seed and that epoch? -/
def hasB (n : Nat) (e : Int) : Bool := decide (n = 32 ∧ 0 ≤ e ∧ e ≤ 40)
theorem hasB_yes {n : Nat} {e : Int} (h : n = 32 ∧ 0 ≤ e ∧ e ≤ 40) : hasB n e = true := decide_eq_true h
theorem hasB_no {n : Nat} {e : Int} (h : ¬ (n = 32 ∧ 0 ≤ e ∧ e ≤ 40)) : hasB n e = false := decide_eq_false h
theorem fitE_two {e : Int} (h : 0 ≤ e ∧ e ≤ 40) : fitN e 2 = 2 := by simp [fitN, fitB, h.1]
theorem fitE_len {e : Int} (h : 0 ≤ e ∧ e ≤ 40) : (fitL e 2).length = 2 := by rw [fitL, littleL_length, fitE_two h]
theorem fitE_byte (e : Int) : ∀ x ∈ fitL e 2, 0 ≤ x ∧ x < 256 := fun x hx => by
  obtain ⟨i, _, rfl⟩ := List.mem_map.1 hx
  exact ⟨Int.emod_nonneg _ (by decide), Int.emod_lt_of_pos _ (by decide)⟩
theorem tellL_length {info : List Int} (hi : info.length = 5) {e : Int} (h : 0 ≤ e ∧ e ≤ 40) : (tellL info e).length = 7 := by rw [tellL, List.length_append, List.length_reverse, fitE_len h, hi]
theorem tellL_byte {info : List Int} (hi : ∀ x ∈ info, 0 ≤ x ∧ x < 256) (e : Int) : ∀ x ∈ tellL info e, 0 ≤ x ∧ x < 256 := fun x hx => by
  rcases List.mem_append.1 hx with h | h
  · exact hi x h
  · exact fitE_byte e x (List.mem_reverse.1 h)

theorem hasKeys_any (p : Option Addr) (n c : Nat) (e : Int) (w : World) :
    Calls Tryz.prog 27 #[.slice p n c, .int .i64 e] w fun r w' => r = .returned (.bool (hasB n e)) ∧ w' = w := by
  by_cases hn : n = 32
  · subst hn
    go_enter Tryz.func27, Tryz.ntmps27
    go_wp2
    all_goals
      go_ret
      refine ⟨?_, rfl⟩
      congr 2
      unfold hasB
      simp
      try omega
  · have hd : ((n : Int) == 32) = false := by simp; omega
    rw [hasB_no (fun h => hn h.1)]
    go_enter Tryz.func27, Tryz.ntmps27
    go_wp2
    go_ret
    exact ⟨rfl, rfl⟩

theorem l1In_any (n a b : Int) (w : World) :
    Calls Tryz.prog 33 #[.int .i64 n, .int .i64 a, .int .i64 b] w fun r w' => r = .returned (.bool (decide (a ≤ n ∧ n ≤ b))) ∧ w' = w := by
  go_enter Tryz.func33, Tryz.ntmps33
  go_wp2
  all_goals
    go_ret
    refine ⟨?_, rfl⟩
    congr 2
    simp
    try omega

/-- The bytes of a string. -/
def numsOf (s : ByteArray) : List Int := s.data.toList.map fun b => (b.toNat : Int)
theorem numsOf_length (s : ByteArray) : (numsOf s).length = s.size := by rw [numsOf, List.length_map, Array.length_toList]; rfl
theorem bytesWorld_below (w : World) (s : ByteArray) : Below w.heap.size w (Lib.bytesWorld w 5 s) :=
  ⟨rfl, rfl, rfl, by rw [Lib.bytesWorld_size]; omega, fun k hk => Lib.bytesWorld_at_old w 5 s k hk⟩
theorem bytesWorld_in (w : World) (s : ByteArray) : BytesIn (Lib.bytesWorld w 5 s) (some ⟨w.heap.size, 0, none⟩) s.size (numsOf s) := fun _ => by
  refine ⟨w.heap.size, 0, rfl, fun i hi => ?_⟩
  rw [Nat.zero_add, Lib.bytesWorld_cell w 5 s i hi]
  have hl : i < s.data.toList.length := by simpa using hi
  simp [numsOf, List.getD_eq_getElem?_getD, List.getElem?_eq_getElem hl]

set_option maxHeartbeats 2000000 in
theorem ofEpoch_any (s : ByteArray) (e : Int) (w : World) (hs : s.size = 5) (he : 0 ≤ e ∧ e ≤ 40) :
    Calls Tryz.prog 31 #[.string s, .int .i64 e] w fun r w' => ∃ p c, r = .returned (.slice p 7 c) ∧ Own 5 w' w.heap.size w'.heap.size (.slice p 7 c) 7 (tellL (numsOf s) e) ∧ Below w.heap.size w w' := by
  have kc := Lib.run_convert_string_bytes (P := Tryz.prog) w 9 22 5 s Tryz.underlying9 Tryz.underlying22 Tryz.underlying5
  have b0 := bytesWorld_below w s
  have i0 := bytesWorld_in w s
  generalize Lib.bytesWorld w 5 s = w0 at kc b0 i0
  generalize grownCap w s.size 0 5 = cc at kc
  rw [hs] at kc i0
  have CG := implGreat_any e 2 w0 (by omega)
  rw [fitE_two he] at CG
  have hxl : (numsOf s).length = 5 := by rw [numsOf_length, hs]
  obtain ⟨XL, hXL⟩ : ∃ XL, XL = numsOf s := ⟨_, rfl⟩
  obtain ⟨GL, hGL⟩ : ∃ GL, GL = (fitL e 2).reverse := ⟨_, rfl⟩
  have hgl : GL.length = 2 := by rw [hGL, List.length_reverse, fitE_len he]
  rw [tellL, ← hGL, ← hXL]
  rw [← hXL] at hxl i0
  rw [← hGL] at CG
  clear hXL hGL
  go_enter Tryz.func31, Tryz.ntmps31
  go_wp2_with (fail)
  refine CG.mono ?_
  rintro r w1 ⟨p1, c1, rfl, r1, b1⟩
  have k1 := below_on b0 b1
  have i1 := in_below i0 b1
  have CC := concatTwo (some ⟨w.heap.size, 0, none⟩) p1 5 2 cc c1 XL GL w1 hxl hgl (by omega) i1 r1.bytes
  go_wp2_with (fail)
  refine CC.mono ?_
  rintro r w2 ⟨p2, c2, rfl, r2, b2⟩
  go_wp2
  go_ret
  exact ⟨_, _, rfl, ⟨owns_mono r2.1 k1.size, r2.2⟩, below_on k1 b2⟩

/-- A literal's bytes, marked as a conversion's. -/
theorem lit_in (w : World) (ty : Nat) (fz : Nat × Nat) (a b c d e : Int) : BytesIn (w.alloc (.cells #[.int .u8 a, .int .u8 b, .int .u8 c, .int .u8 d, .int .u8 e] ty fz)) (some ⟨w.heap.size, 0, none⟩) 5 [a, b, c, d, e] := by
  intro _
  refine ⟨w.heap.size, 0, rfl, fun i hi => ?_⟩
  rw [cell_of_row _ _ _ _ _ _ (heap_made w _)]
  match i, hi with
  | 0, _ => rfl
  | 1, _ => rfl
  | 2, _ => rfl
  | 3, _ => rfl
  | 4, _ => rfl

/-- 'append(full, b...)' of bytes: a new row. -/
theorem list_grows {P : Program} {e : TypeId} {i : TypeInfo} {n m c : Nat} {w : World} {q p : Option Addr} {xs ys : List Int} {ops : Array Oper} {rest : List Oper} {o : Oper} {a : Act} {Q : Exit → Act → World → Prop} (hi : P.info? e = some i) (hz : i.zero = some (.int .u8 0)) (hsize : i.size = 1) (hby : i.bytes = 1)
    (s y : Operand) (t : TypeId) (ht : P.underlying t = some (.slice e)) (hp : BytesIn w q n xs) (hx : xs.length = n) (hn0 : 0 < n) (hin : BytesIn w p m ys) (hl : ys.length = m) (hm0 : 0 < m) (hnm : n + m ≤ 1099511627)
    (hgd : o.guard = none) (ho : o.op = .call { callee := .builtin .append, args := #[s, y], argTypes := #[t, t] }) (hs : a.eval s = .slice q n n) (hy : a.eval y = .slice p m c)
    (h : ∀ p' cap w', Own e w' w.heap.size w'.heap.size (.slice p' (n + m) cap) (n + m) (xs ++ ys) → Below w.heap.size w w' → wpList P ops Q rest (a.put o.dst (.slice p' (n + m) cap)) w') :
    wpList P ops Q (o :: rest) a w := by
  obtain ⟨b, of, rfl, hc⟩ := hp hn0
  obtain ⟨b', of', rfl, hc'⟩ := hin hm0
  refine wpList_append_grows w hgd s y t ho e i (.int .u8 0) 1 1 ht hi hz hsize hby rfl (by decide) (some ⟨b, of, none⟩) n n (xs.map (Value.int .u8)) hs (fun x => by cases x) (by simp [hx]) (fun b2 hb2 => by cases hb2; exact news_of_in hx hc) ⟨b', of', none⟩ m c (ys.map (Value.int .u8)) hy (by simp [hl]) (news_of_in hl hc') (ints_oneCell _ _) (by omega) (by unfold maxLen; omega) (by omega) ?_
  intro v' w' h1 h2
  have h1' : w'.ownsRow w.heap.size e 1 v' (n + m) ((xs ++ ys).map (Value.int .u8)) := by simpa using h1
  have hv : ∃ p' cap, v' = .slice p' (n + m) cap := by
    rcases h1'.2 with ⟨_, r⟩ | ⟨g, cap, cur, r, _⟩
    · omega
    · exact ⟨_, _, r⟩
  obtain ⟨p', cap, rfl⟩ := hv
  exact h p' cap w' (.of h1') ((Below.refl _ _).grown h2 (Nat.le_refl _) fun k hk => by cases hk)

end Go.Proofs.YtdjdanpicbaieaaGreatDoor
