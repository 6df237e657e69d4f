/-
  What the specification's Unpadded answers at whatever bytes. Conditions: bytes all; a capacity that is not less than the length.
-/
import Derived.Test.YtaijemajolgmfaaSpecNote
import Derived.Lib.Bytes
namespace Go.Proofs.Ytaijemajolgmfaa
open Go.RowKit
set_option maxRecDepth 100000

/-- How many bytes it says. -/
def unN (bs : List Int) : Nat := (256 * bs.getD 0 0 + bs.getD 1 0).toNat
def unS (bs : List Int) : List Int := (bs.drop 2).take (unN bs)
def unOk (bs : List Int) : Prop := 2 ≤ bs.length ∧ unN bs ≤ bs.length - 2 ∧ unN bs ≤ 200 ∧ noteL (unS bs) = bs
instance (bs : List Int) : Decidable (unOk bs) := inferInstanceAs (Decidable (_ ∧ _))
def unM (bs : List Int) : Nat := if unOk bs then unN bs else 0
def unL (bs : List Int) : List Int := if unOk bs then unS bs else []
theorem unS_length {bs : List Int} (h : unN bs ≤ bs.length - 2) : (unS bs).length = unN bs := by simp [unS]; omega
theorem unL_length (bs : List Int) : (unL bs).length = unM bs := by
  unfold unL unM
  split
  · rename_i h; exact unS_length h.2.1
  · rfl
theorem unL_byte {bs : List Int} (hb : ∀ x ∈ bs, 0 ≤ x ∧ x < 256) : ∀ x ∈ unL bs, 0 ≤ x ∧ x < 256 := by
  unfold unL unS
  split
  · intro x hx; exact hb x (List.mem_of_mem_drop (List.mem_of_mem_take hx))
  · intro x hx; cases hx
theorem unM_le (bs : List Int) : unM bs ≤ 200 := by
  unfold unM
  split
  · rename_i h; exact h.2.2.1
  · omega
theorem nums_inj : ∀ {xs ys : List Int}, (∀ x ∈ xs, 0 ≤ x ∧ x < 256) → (∀ x ∈ ys, 0 ≤ x ∧ x < 256) → xs.map (fun n => UInt8.ofNat n.toNat) = ys.map (fun n => UInt8.ofNat n.toNat) → xs = ys
  | [], [], _, _, _ => rfl
  | [], y :: ys, _, _, h => by simp at h
  | x :: xs, [], _, _, h => by simp at h
  | x :: xs, y :: ys, hx, hy, h => by
    simp only [List.map_cons, List.cons.injEq] at h
    have h1 := hx x (by simp)
    have h2 := hy y (by simp)
    have e := congrArg UInt8.toNat h.1
    simp only [UInt8.toNat_ofNat'] at e
    have : x = y := by omega
    rw [this, nums_inj (fun z hz => hx z (by simp [hz])) (fun z hz => hy z (by simp [hz])) h.2]
theorem strs_same {xs ys : List Int} (hx : ∀ x ∈ xs, 0 ≤ x ∧ x < 256) (hy : ∀ x ∈ ys, 0 ≤ x ∧ x < 256) : ((strOfNums xs).toList == (strOfNums ys).toList) = decide (xs = ys) := by
  rw [Lib.strOfNums_toList, Lib.strOfNums_toList]
  by_cases h : xs = ys
  · subst h; simp
  · rw [decide_eq_false h]
    apply Bool.eq_false_iff.2
    intro he
    exact h (nums_inj hx hy (eq_of_beq he))
theorem byteN {xs : List Int} (hb : ∀ x ∈ xs, 0 ≤ x ∧ x < 256) (i : Nat) : 0 ≤ xs.getD i 0 ∧ xs.getD i 0 < 256 := by
  rw [List.getD_eq_getElem?_getD]
  cases hk : xs[i]? with
  | none => simp
  | some x => exact hb x (List.mem_of_getElem? hk)
/-- A part of bytes, from l to h. -/
theorem slice_mid (b j m cc l h : Nat) (li : Int) (hli : li = (l : Int)) (hl : 0 < l) (hlh : l ≤ h) (hc : h ≤ cc) : ∃ q', Hid (l < h → q' = some ⟨b, j + l, none⟩) ∧ ∀ W, (Instr.slice 22 (.slice (some ⟨b, j, none⟩) m cc) (some (.int .i64 li)) (some (.int .i64 (h : Int))) none).run Try.prog W = .ok (.slice q' (h - l) (cc - l)) W := by
  subst hli
  refine ⟨if cc = l then some ⟨b, j, none⟩ else some ⟨b, j + l, none⟩, fun h64 => if_neg (by omega), fun W => ?_⟩
  have ht' : Try.prog.underlying 22 = some (.slice (Try.prog.elem 22)) := by simp [Program.elem, Try.underlying22]
  have he : Try.prog.elem 22 = 5 := by simp [Program.elem, Try.underlying22]
  obtain ⟨i0, hi, hz0, hz1, hz2⟩ := info_parts infoByte
  rw [run_slice_lh W 22 _ _ _ ht' .i64 .i64 l h (by omega) (by omega) (by omega), he]
  simp [sizeOf, typeInfo, hi, hz1, sliced, Addr.add, show l ≠ 0 by omega]
theorem in_part {w : World} {b o n l k : Nat} {xs : List Int} {q : Option Addr} (hc : ∀ i, i < n → w.cell? ⟨b, o + i, none⟩ = some (.int .u8 (xs.getD i 0))) (hk : l + k ≤ n) (hq : 0 < k → q = some ⟨b, o + l, none⟩) : BytesIn w q k ((xs.drop l).take k) := by
  intro h0
  refine ⟨b, o + l, hq h0, fun i hi => ?_⟩
  rw [Nat.add_assoc, hc (l + i) (by omega)]
  simp [hi]

set_option maxHeartbeats 8000000 in
theorem specUnpadded_any (p : Option Addr) (n c : Nat) (bs : List Int) (w : World) (hn0 : n ≤ 1048576) (hx : bs.length = n) (h : BytesIn w p n bs) (hb : ∀ x ∈ bs, 0 ≤ x ∧ x < 256) (hc : n ≤ c) :
    Calls Try.prog 13 #[.slice p n c] w fun e w' => ∃ p' c', e = .returned (.tuple #[.slice p' (unM bs) c', .bool (decide (unOk bs))]) ∧ Own 5 w' w.heap.size w'.heap.size (.slice p' (unM bs) c') (unM bs) (unL bs) ∧ Below w.heap.size w w' := by
  obtain ⟨i0, hi, hz0, hz1, hz2⟩ := info_parts infoByte
  have made0 : ∀ X : World, Below w.heap.size w X → Own 5 (X.alloc (.cells #[] 5)) w.heap.size (X.alloc (.cells #[] 5)).heap.size (.slice (some ⟨X.heap.size, 0, none⟩) 0 0) 0 [] ∧ Below w.heap.size w (X.alloc (.cells #[] 5)) := fun X hX => ⟨.of (World.ownsRow_made X #[] 0 hX.size (by unfold maxLen; omega) rfl), below_on hX ((Below.refl _ _).alloc (Nat.le_refl _) _)⟩
  have hno : Hid (¬ unOk bs → unM bs = 0 ∧ unL bs = [] ∧ decide (unOk bs) = false) := fun k => ⟨if_neg k, if_neg k, decide_eq_false k⟩
  by_cases h2 : n < 2
  · have hk : ¬ unOk bs := fun k => by have := k.1; omega
    obtain ⟨e1, e2, e3⟩ := hno.out hk
    rw [e1, e2, e3]
    have g0 : (n : Int) < 2 := by omega
    have mm := made0 w (Below.refl _ _)
    clear h hb hx hk e1 e2 e3 hno made0
    go_enter Try.func13, Try.ntmps13
    go_wp2
    go_ret2
    exact ⟨_, _, rfl, mm.1, mm.2⟩
  · obtain ⟨b, o, rfl, hcell⟩ := h (by omega)
    have g0 : ¬ (n : Int) < 2 := by omega
    have k0 := hcell 0 (by omega)
    have k1 := hcell 1 (by omega)
    rw [Nat.add_zero] at k0
    have l0 : 0 < n := by omega
    have l1 : 1 < n := by omega
    have l0' : (0 : Int) < (n : Int) := by omega
    have l1' : (1 : Int) < (n : Int) := by omega
    have x0 := byteN hb 0
    have x1 := byteN hb 1
    obtain ⟨N, hN⟩ : ∃ N, N = unN bs := ⟨_, rfl⟩
    have hNe : 256 * bs.getD 0 0 + bs.getD 1 0 = (N : Int) := by rw [hN]; unfold unN; omega
    obtain ⟨u0, hu0⟩ : ∃ u, u = bs.getD 0 0 := ⟨_, rfl⟩
    obtain ⟨u1, hu1⟩ : ∃ u, u = bs.getD 1 0 := ⟨_, rfl⟩
    rw [← hu0] at k0 x0 hNe
    rw [← hu1] at k1 x1 hNe
    obtain ⟨t, ht⟩ : ∃ t, 256 * u0 = t := ⟨_, rfl⟩
    rw [ht] at hNe
    have lt0 : 0 ≤ t ∧ t < 65536 := by omega
    have lN : (N : Int) < 65536 := by omega
    clear hu0 hu1
    replace hN : Hid (N = unN bs) := hN
    have hNn : Hid (unN bs ≤ bs.length - 2 ∧ unN bs ≤ 200 → ∀ q, (0 < N → q = some ⟨b, o + 2, none⟩) → ∀ X, Below w.heap.size w X → BytesIn X q N (unS bs)) := fun k q hq X hX => by
      have e := hN.out
      unfold unS
      rw [← e]
      refine in_part (n := n) (b := b) (o := o) (fun i hi => (hX.cell (p := ⟨b, o + i, none⟩) (World.block_lt_of_cell? w ⟨b, o + 0, none⟩ (hcell 0 (by omega)))).trans (hcell i hi)) (by omega) hq
    by_cases hA : n - 2 < N
    · have hk : ¬ unOk bs := fun k => by have := k.2.1; have := hN.out; omega
      obtain ⟨e1, e2, e3⟩ := hno.out hk
      rw [e1, e2, e3]
      have gA : (n : Int) - 2 < (N : Int) := by omega
      have mm := made0 w.drew (Below.refl _ _).drew
      clear hb hx hk e1 e2 e3 hno made0 hcell hN hA hNn
      go_enter Try.func13, Try.ntmps13
      go_wp2_with (fail)
      go_region
      go_wp2
      go_ret2
      exact ⟨_, _, rfl, mm.1, mm.2⟩
    · have gA : ¬ (n : Int) - 2 < (N : Int) := by omega
      by_cases hB : 200 < N
      · have hk : ¬ unOk bs := fun k => by have := k.2.2.1; have := hN.out; omega
        obtain ⟨e1, e2, e3⟩ := hno.out hk
        rw [e1, e2, e3]
        have gB : (200 : Int) < (N : Int) := by omega
        have mm := made0 w.drew (Below.refl _ _).drew
        clear hb hx hk e1 e2 e3 hno made0 hcell hN hA hNn
        go_enter Try.func13, Try.ntmps13
        go_wp2_with (fail)
        go_region
        go_wp2
        go_ret2
        exact ⟨_, _, rfl, mm.1, mm.2⟩
      · have gB : ¬ (200 : Int) < (N : Int) := by omega
        obtain ⟨T, hT⟩ : ∃ T : Nat, T = 2 + N := ⟨_, rfl⟩
        have hTe : Hid ((2 : Int) + (N : Int) = (T : Int)) := by unfold Hid; omega
        obtain ⟨q', hq', hsl⟩ := slice_mid b o n c 2 T 2 rfl (by decide) (by omega) (by omega)
        have hT2 : T - 2 = N := by omega
        rw [hT2] at hsl
        have hin := hNn.out ⟨by have := hN.out; omega, by have := hN.out; omega⟩ q' (fun h => hq'.out (by omega))
        have hlS : (unS bs).length = N := by rw [hN.out]; exact unS_length (by have := hN.out; omega)
        have hyes : Hid (noteL (unS bs) = bs → unOk bs) := fun e => ⟨by omega, by have := hN.out; omega, by have := hN.out; omega, e⟩
        have C1 := fun X (hX : Below w.heap.size w X) => specPadded_any q' N (c - 2) (unS bs) X (by omega) hlS (hin X hX)
        have hbS : ∀ x ∈ unS bs, 0 ≤ x ∧ x < 256 := fun x hx => hb x (List.mem_of_mem_drop (List.mem_of_mem_take hx))
        have hin0 : ∀ X, Below w.heap.size w X → BytesIn X (some ⟨b, o, none⟩) n bs := fun X hX => in_below (fun _ => ⟨b, o, rfl, hcell⟩) hX
        have C2 := fun (r : Option Addr) (cr : Nat) (X : World) (h1 : BytesIn X r (noteN N) (noteL (unS bs))) (h2 : BytesIn X (some ⟨b, o, none⟩) n bs) => specSame_any r (some ⟨b, o, none⟩) (noteN N) n cr c (noteL (unS bs)) bs X (by rw [noteL_length, hlS]) hx h1 h2
        rw [strs_same (noteL_byte hbS) hb] at C2
        have bd : Below w.heap.size w w.drew := (Below.refl _ _).drew
        have lT : (T : Int) < 1000 := by omega
        have dA : decide ((n : Int) - 2 < (N : Int)) = false := decide_eq_false gA
        have dB : decide ((200 : Int) < (N : Int)) = false := decide_eq_false gB
        by_cases hS : noteL (unS bs) = bs
        · have hk := hyes.out hS
          have e1 : unM bs = N := by rw [hN.out]; exact if_pos hk
          have e2 : unL bs = unS bs := if_pos hk
          have e3 : decide (unOk bs) = true := decide_eq_true hk
          have e4 : decide (noteL (unS bs) = bs) = true := decide_eq_true hS
          rw [e1, e2, e3]
          rw [e4] at C2
          clear e1 e2 e3 e4 hS hk hyes hno hNn hcell hT hT2 hq' hbS hb hx hN
          generalize unS bs = S at C1 C2 hin hlS ⊢
          generalize noteL S = V at C1 C2
          generalize noteN N = VN at C1 C2
          go_enter Try.func13, Try.ntmps13
          go_wp2_with (fail)
          go_region
          have hTe' := hTe.out
          go_wp2_with (fail)
          refine (C1 _ bd).mono ?_
          rintro e w1 ⟨p1, c1, rfl, o1, b1⟩
          have bel1 := below_on bd b1
          have C3 := C2 p1 c1 w1 o1.bytes (hin0 _ bel1)
          clear C2 C1 o1 b1
          go_wp2_with (fail)
          refine C3.mono ?_
          rintro e w2 ⟨rfl, b2⟩
          have bel2 := below_on bel1 b2
          have mm := made0 w2 bel2
          have hI := hin _ mm.2
          have ho := mm.1.1
          have bel3 := mm.2
          clear C3 mm made0 hin hin0 bd bel1 bel2 b2
          replace hlS : Hid (S.length = N) := hlS
          go_wp2_with (at_builtin; refine list_spreadA hi hz0 hz1 hz2 (.tmp 39) (.tmp 43) 22 Try.underlying22 ho hI hlS.out (by omega) (by omega) bel3.size (by rfl) (by rfl) (by rfl) (by rfl) ?_; intro p4 cap4 w4 ho4 hb4; simp only [Nat.zero_add, List.nil_append] at ho4 ⊢)
          go_ret2
          exact ⟨_, _, rfl, .of ho4, bel3.trans hb4⟩
        · have hk : ¬ unOk bs := fun k => hS k.2.2.2
          obtain ⟨e1, e2, e3⟩ := hno.out hk
          have e4 : decide (noteL (unS bs) = bs) = false := decide_eq_false hS
          rw [e1, e2, e3]
          rw [e4] at C2
          clear e1 e2 e3 e4 hS hk hyes hno hNn hcell hT hT2 hq' hbS hb hx hN
          generalize unS bs = S at C1 C2 hin hlS
          generalize noteL S = V at C1 C2
          generalize noteN N = VN at C1 C2
          go_enter Try.func13, Try.ntmps13
          go_wp2_with (fail)
          go_region
          have hTe' := hTe.out
          go_wp2_with (fail)
          refine (C1 _ bd).mono ?_
          rintro e w1 ⟨p1, c1, rfl, o1, b1⟩
          have bel1 := below_on bd b1
          have C3 := C2 p1 c1 w1 o1.bytes (hin0 _ bel1)
          clear C2 C1 o1 b1
          go_wp2_with (fail)
          refine C3.mono ?_
          rintro e w2 ⟨rfl, b2⟩
          have bel2 := below_on bel1 b2
          have mm := made0 w2 bel2
          clear C3 made0
          go_wp2_with (fail)
          go_ret2
          exact ⟨_, _, rfl, mm.1, mm.2⟩

end Go.Proofs.Ytaijemajolgmfaa
