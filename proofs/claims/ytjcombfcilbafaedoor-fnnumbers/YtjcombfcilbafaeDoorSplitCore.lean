/-
  What spec.Split answers at every text of at most 1048576 bytes and every byte: what stands between such bytes, in order.
-/
import Derived.Test.YtjcombfcilbafaeDoorPlainS
import Derived.Test.YtjcombfcilbafaeDoorNumberCore
import Derived.Lib.SplitLaws
import Derived.Lib.Strings
namespace Go.Proofs.YtjcombfcilbafaeDoor
open Go.RowKit

theorem infoStr : (Tryd.prog.info? 9).map (fun i => (i.zero, i.size, i.bytes)) = some (some (.string ByteArray.empty), 1, 16) := by kernel_rfl

theorem occ_one (l : List UInt8) (b : UInt8) (i : Nat) : Lib.occAt l [b] i = true ↔ l[i]? = some b := by
  unfold Lib.occAt
  rw [List.isPrefixOf_iff_prefix]
  constructor
  · rintro ⟨t, ht⟩
    have := congrArg (·[0]?) ht
    simp at this
    exact this.symm
  · intro h
    have hi : i < l.length := by
      rcases Nat.lt_or_ge i l.length with h' | h'
      · exact h'
      · rw [List.getElem?_eq_none h'] at h; cases h
    rw [List.drop_eq_getElem_cons hi]
    rw [List.getElem?_eq_getElem hi] at h
    simp at h
    exact ⟨l.drop (i + 1), by simp [h]⟩

theorem split_none {l : List UInt8} {b : UInt8} (h : ∀ x ∈ l, x ≠ b) : Lib.split l [b] = [l] := by
  have hi : Lib.index l [b] = -1 := by
    refine Lib.index_none fun j _ => ?_
    rw [Bool.eq_false_iff]
    intro ho
    have := (occ_one l b j).1 ho
    exact h b (List.mem_of_getElem? this) rfl
  unfold Lib.split
  rw [Lib.count_miss hi]
  rfl

theorem split_hit {p r : List UInt8} {b : UInt8} (h : ∀ x ∈ p, x ≠ b) : Lib.split (p ++ b :: r) [b] = p :: Lib.split r [b] := by
  have hi : Lib.index (p ++ b :: r) [b] = (p.length : Nat) := by
    refine Lib.index_first (by simp) ((occ_one _ _ _).2 (by simp)) fun j hj => ?_
    rw [Bool.eq_false_iff]
    intro ho
    have := (occ_one _ b j).1 ho
    rw [List.getElem?_append_left hj] at this
    exact h b (List.mem_of_getElem? this) rfl
  unfold Lib.split
  rw [Lib.count_hit (by simp) hi]
  have e : (p ++ b :: r).drop (p.length + [b].length) = r := by simp
  rw [e, Nat.add_comm 1, Lib.splitK, hi, if_neg (by simp)]
  simp

/-- The parts, as texts. -/
def partsL (l : List UInt8) (b : UInt8) : List ByteArray := (Lib.split l [b]).map fun p => ⟨p.toArray⟩

theorem ext_eq (s : ByteArray) (f k : Nat) : (⟨((s.data.toList.drop f).take (k - f)).toArray⟩ : ByteArray) = s.extract f k :=
  (str_eq (Lib.extract_data s f k)).symm

theorem no_more {l : List UInt8} {f k : Nat} {b c : UInt8} (hfk : f ≤ k) (hk : l[k]? = some c) (hc : c ≠ b) (h : ∀ x ∈ (l.drop f).take (k - f), x ≠ b) : ∀ x ∈ (l.drop f).take (k + 1 - f), x ≠ b := by
  have hlt : k < l.length := by
    rcases Nat.lt_or_ge k l.length with h' | h'
    · exact h'
    · rw [List.getElem?_eq_none h'] at hk; cases hk
  intro x hx
  rw [show k + 1 - f = (k - f) + 1 by omega, List.take_succ_eq_append_getElem (by simp; omega)] at hx
  rcases List.mem_append.1 hx with h1 | h1
  · exact h x h1
  · simp at h1
    rw [List.getElem?_eq_getElem hlt] at hk
    simp at hk
    subst h1
    simp only [show f + (k - f) = k by omega]
    rw [hk]
    exact hc

theorem cut_at {l : List UInt8} {f k : Nat} {b : UInt8} (hfk : f ≤ k) (hk : l[k]? = some b) : l.drop f = (l.drop f).take (k - f) ++ b :: l.drop (k + 1) := by
  have hlt : k < l.length := by
    rcases Nat.lt_or_ge k l.length with h' | h'
    · exact h'
    · rw [List.getElem?_eq_none h'] at hk; cases hk
  have e : (l.drop f).drop (k - f) = b :: l.drop (k + 1) := by
    rw [List.drop_drop, show f + (k - f) = k by omega, List.drop_eq_getElem_cons hlt]
    rw [List.getElem?_eq_getElem hlt] at hk
    simp at hk
    rw [hk]
  rw [← e, List.take_append_drop]

theorem ch_get (s : ByteArray) (i : Nat) (pf : i < s.size) (B : Int) (h0 : 0 ≤ B) (h1 : B < 256) : ∃ c : UInt8, s.data.toList[i]? = some c ∧ (ch s i = B ↔ c = UInt8.ofNat B.toNat) := by
  have hl : i < s.data.toList.length := by simpa using pf
  refine ⟨s.data.toList[i], List.getElem?_eq_getElem hl, ?_⟩
  have e : ch s i = ((s.data.toList[i]).toNat : Int) := by
    unfold ch
    rw [List.getD_eq_getElem?_getD, List.getElem?_eq_getElem hl]
    rfl
  rw [e]
  constructor
  · intro h
    rw [← h]
    simp
  · intro h
    rw [h]
    simp
    omega

set_option maxHeartbeats 2000000 in
theorem specSplit_any (s : ByteArray) (B : Int) (w : World) (hs : s.size ≤ 1048576) (hB0 : 0 ≤ B) (hB1 : B < 256) :
    Calls Tryd.prog 13 #[.string s, .int .u8 B] w fun e w' => ∃ p c, e = .returned (.slice p (partsL s.data.toList (UInt8.ofNat B.toNat)).length c) ∧ OwnS 9 w' w.heap.size w'.heap.size (.slice p (partsL s.data.toList (UInt8.ofNat B.toNat)).length c) (partsL s.data.toList (UInt8.ofNat B.toNat)).length (partsL s.data.toList (UInt8.ofNat B.toNat)) ∧ Below w.heap.size w w' := by
  obtain ⟨i0, hi, hz0, hz1, hz2⟩ := info_parts infoStr
  obtain ⟨b, hb⟩ : ∃ b, b = UInt8.ofNat B.toNat := ⟨_, rfl⟩
  rw [← hb]
  obtain ⟨l, hl⟩ : ∃ l, l = s.data.toList := ⟨_, rfl⟩
  rw [← hl]
  have hll : l.length = s.size := by rw [hl]; exact (Lib.size_eq s).symm
  go_enter Tryd.func13, Tryd.ntmps13
  go_wp2
  go_loopw [5, 6, 7] (fun v q i wr => ∃ (k f n : Nat) (ps : List ByteArray), k ≤ s.size + 1 ∧ f ≤ k ∧ i = .int .i64 k ∧ q = .int .i64 f ∧ n ≤ k ∧ wr.ownsRow w.heap.size 9 1 v n (ps.map Value.string) ∧
      Hid (ps ++ (if k ≤ s.size then partsL (l.drop f) b else []) = partsL l b) ∧ Hid (∀ x ∈ (l.drop f).take (k - f), x ≠ b) ∧ Below w.heap.size w wr)
    (fun _ _ i _ => s.size + 1 - (intOf i).toNat)
  case atStart => exact ⟨0, 0, 0, [], Nat.zero_le _, Nat.le_refl _, rfl, rfl, Nat.le_refl _, World.ownsRow_made w #[] 0 (Nat.le_refl _) (by unfold maxLen; omega) rfl, by simp [Hid], fun x hx => by simp at hx, (Below.refl _ _).alloc (Nat.le_refl _) _⟩
  case round =>
    obtain ⟨k, f, n, ps, hk, hfk, rfl, rfl, hn, hown, hT, hno, hbel⟩ := hrel
    have hsz := hbel.size
    by_cases hle : k ≤ s.size
    · have hT' := hT.out
      rw [if_pos hle] at hT'
      by_cases hlast : k = s.size
      · have hsp : partsL (l.drop f) b = [s.extract f s.size] := by
          unfold partsL
          have e : (l.drop f).take (k - f) = l.drop f := List.take_of_length_le (by simp; omega)
          rw [split_none (by have := hno.out; rwa [e] at this)]
          simp only [List.map_cons, List.map_nil]
          rw [← ext_eq s f s.size, ← hl, ← hlast, e]
        rw [hsp] at hT'
        subst hlast
        have hd : ((s.size : Int) == (s.size : Int)) = true := by simp
        have HT : Hid (ps ++ [s.extract f s.size] = partsL l b) := hT'
        have f1 : (f : Int) ≤ (s.size : Int) := by omega
        clear hT hT' hno hl hsp
        go_wp2_with (at_builtin; refine list_pushS hi hz0 hz1 hz2 (.tmp 26) (.tmp 31) 30 Tryd.underlying30 _ hown (by omega) hsz (by rfl) (by rfl) (by rfl) (by rfl) ?_; intro g cap w1 ho1 hb1 hkk)
        rw [HT.out] at ho1
        go_roundw
        case rel => exact ⟨s.size + 1, s.size + 1, n + 1, partsL l b, Nat.le_refl _, Nat.le_refl _, by go_num, by go_num, by omega, ho1, (by show partsL l b ++ _ = _; rw [if_neg (by omega), List.append_nil]), (fun x hx => by simp at hx), hbel.trans hb1⟩
        case measure => simp [intOf]
      · have hlt : k < s.size := by omega
        have hd : ((k : Int) == (s.size : Int)) = false := by simp; omega
        have ex := ch_at s k hlt
        obtain ⟨c, hc, hcB⟩ := ch_get s k hlt B hB0 hB1
        rw [← hl] at hc
        rw [← hb] at hcB
        have i2 : (k : Int) < (s.size : Int) := by omega
        by_cases hch : ch s k = B
        · have hcb := hcB.1 hch
          subst hcb
          have hsp : partsL (l.drop f) c = s.extract f k :: partsL (l.drop (k + 1)) c := by
            unfold partsL
            rw [cut_at hfk hc, split_hit hno.out]
            simp only [List.map_cons]
            rw [← ext_eq s f k, ← hl]
          rw [hsp] at hT'
          have HT : Hid ((ps ++ [s.extract f k]) ++ (if k + 1 ≤ s.size then partsL (l.drop (k + 1)) c else []) = partsL l c) := by
            show _ = _
            rw [if_pos (by omega), List.append_assoc]
            exact hT'
          have hd2 : (ch s k == B) = true := by simpa using hch
          have f1 : (f : Int) ≤ (k : Int) := by omega
          have f2 : (k : Int) ≤ (s.size : Int) := by omega
          clear hT hT' hno hl hsp hc hcB hch
          go_wp2_with (at_builtin; refine list_pushS hi hz0 hz1 hz2 (.tmp 26) (.tmp 31) 30 Tryd.underlying30 _ hown (by omega) hsz (by rfl) (by rfl) (by rfl) (by rfl) ?_; intro g cap w1 ho1 hb1 hkk)
          go_roundw
          case rel => exact ⟨k + 1, k + 1, n + 1, _, by omega, Nat.le_refl _, by go_num, by go_num, by omega, ho1, HT, (fun x hx => by simp at hx), hbel.trans hb1⟩
          case measure => simp [intOf]; omega
        · have hd2 : (ch s k == B) = false := by simpa using hch
          have hno2 : Hid (∀ x ∈ (l.drop f).take (k + 1 - f), x ≠ b) := no_more hfk hc (fun e => hch (hcB.2 e)) hno.out
          have HT : Hid (ps ++ (if k + 1 ≤ s.size then partsL (l.drop f) b else []) = partsL l b) := by
            show _ = _
            rw [if_pos (by omega)]
            exact hT'
          clear hT hT' hno hl hc hcB hch
          go_wp2
          go_roundw
          case rel => exact ⟨k + 1, f, n, ps, by omega, by omega, by go_num, rfl, by omega, hown, HT, hno2, hbel⟩
          case measure => simp [intOf]; omega
    · have hT' := hT.out
      rw [if_neg hle, List.append_nil] at hT'
      subst hT'
      have hnl : Hid (n = (partsL l b).length) := by have := hown.1; simp at this; exact this.symm
      have c1 : ¬ (k : Int) ≤ (s.size : Int) := by omega
      obtain ⟨p', c', hv⟩ := owns_form hown
      subst hv
      clear hT hno hl hb
      go_wp2
      go_ret
      rw [← hnl.out]
      exact ⟨p', c', rfl, .of hown, hbel⟩

end Go.Proofs.YtjcombfcilbafaeDoor
