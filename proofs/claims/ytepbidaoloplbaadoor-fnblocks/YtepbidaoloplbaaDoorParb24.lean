/-
  Stream beside others, whole.
  Stream beside others: what it answers is what the specification's Stream answers.
  What the program's quarter answers: the four words behind a quarter round. Condition: words.
  What slices.Grow of nil and slices.Concat of slices of ints do: a row of the call's own, empty with room; the ints of all, one behind the other. Conditions: at least one int, and at most 2^30.
  A row of 16 words in a block that the call made (a stream); what the program's newStream answers: the words of a key and a nonce, with count 0; or false. Condition: bytes all.
-/
import Derived.Test.YtepbidaoloplbaaDoorParb23
import Derived.Test.YtepbidaoloplbaaDoorParb17
import Derived.Test.YtepbidaoloplbaaDoorParb09
import Derived.Test.YtepbidaoloplbaaDoorParb12
import Derived.Test.YtepbidaoloplbaaDoorParb11
import Derived.Test.YtepbidaoloplbaaDoorParb22
import Derived.Test.YtepbidaoloplbaaDoorParb15
import Derived.Test.YtepbidaoloplbaaDoorParb14
import Derived.Test.YtepbidaoloplbaaDoorParb21
import Derived.Deep.MidRow
import Derived.Deep.WholeRow
import Derived.Test.YtepbidaoloplbaaDoorParb16
namespace Go.Proofs.YtepbidaoloplbaaDoor
open Go Go.Conc Go.RowKit

theorem wrapI {x : Int} (h0 : -9223372036854775808 ≤ x) (h1 : x ≤ 9223372036854775807) : IntKind.i64.wrap x = x := by
  simp [IntKind.wrap, IntKind.bits, IntKind.signed]
  omega
/-- A slice of bytes. -/
structure BytesT (w : World) (p : Option Addr) (n c : Nat) (xs : List Int) : Prop where
  len : xs.length = n
  cap : n ≤ c
  low : ∀ x ∈ xs, 0 ≤ x ∧ x < 256
  lies : 0 < n → ∃ b o, p = some ⟨b, o, none⟩ ∧ ∀ j u, xs[j]? = some u → w.cell? ⟨b, o + j, none⟩ = some (.int .u8 u)
theorem BytesT.at {w : World} {p : Option Addr} {n c : Nat} {xs : List Int} (h : BytesT w p n c xs) (h0 : 0 < n) : ∃ b o, p = some ⟨b, o, none⟩ ∧ b < w.heap.size ∧ ∀ j u, xs[j]? = some u → w.cell? ⟨b, o + j, none⟩ = some (.int .u8 u) := by
  obtain ⟨b, o, e, hc⟩ := h.lies h0
  have := h.len
  exact ⟨b, o, e, World.block_lt_of_cell? w ⟨b, o + 0, none⟩ (hc 0 xs[0] (List.getElem?_eq_getElem (by omega))), hc⟩
/-- Where Stream answers. -/
def GoodT (kn nn bn : Nat) (ct : Int) : Prop := kn = 32 ∧ nn = 12 ∧ bn ≤ 4000 ∧ 0 ≤ ct ∧ ct + (((bn + 63) / 64 : Nat) : Int) ≤ 4294967296
/-- What it answers. -/
def strT (KS : List Int) (ct : Int) (NS BS : List Int) : List Int := outR BS (fun i j => (blkB KS (ct + (i : Int)) NS).getD j 0) ((BS.length + 63) / 64)

theorem stream_bes (kp np bp : Option Addr) (kn kc nn nc bn bc : Nat) (ct : Int) (KS NS BS : List Int) (c : Frame) (cs : List Frame) (C : Array Value) (e : TypeId) (w : World) (hK : BytesT w kp kn kc KS) (hN : BytesT w np nn nc NS) (hB : BytesT w bp bn bc BS) (hct : ct ≤ 9223372036854775807)
    (hT : TableIn C e w) (hC : ∀ v ∈ C, flatC v = true) (hCp : ∀ (j : Nat) v, placesC[j]? = some v → C[j]? = some v) :
    Bes Tryd.prog (fun g1 w1 => ∃ v', g1 = G (c.finish v') cs ∧ Keeps (fun b => b < w.heap.size) w w1 ∧ ((¬ GoodT kn nn bn ct ∧ v' = .slice none 0 0) ∨ (GoodT kn nn bn ct ∧ ∃ τ, v' = .slice (some ⟨τ, 0, none⟩) bn bn ∧ w.heap.size ≤ τ ∧ w1.heap[τ]? = some (.cells ((strT KS ct NS BS).map (Value.int .u8)).toArray 5 (0, 0)))))
      (G (Frame.enter Tryd.prog 8 #[.slice kp kn kc, .int .i64 ct, .slice np nn nc, .slice bp bn bc] .normal) (c :: cs)) w := by
  have htab : 0 < w.heap.size := by
    obtain ⟨lo, hi, h, _⟩ := hT
    exact (Array.getElem?_eq_some_iff.1 h).1
  have hSw : ∀ b, ShS b → b < w.heap.size := fun b hb => by rw [(shS_iff b).1 hb]; exact htab
  obtain ⟨a1, h1⟩ : ∃ a1, IntKind.i64.wrap ((bn : Int) + 64) = a1 := ⟨_, rfl⟩
  obtain ⟨a2, h2⟩ : ∃ a2, IntKind.i64.wrap (a1 - 1) = a2 := ⟨_, rfl⟩
  obtain ⟨a3, h3⟩ : ∃ a3, IntKind.i64.wrap (a2.tdiv 64) = a3 := ⟨_, rfl⟩
  obtain ⟨a4, h4⟩ : ∃ a4, IntKind.i64.wrap (4294967296 - ct) = a4 := ⟨_, rfl⟩
  have hm : bn ≤ 4000 → a3 = (((bn + 63) / 64 : Nat) : Int) := fun h => by
    rw [wrapI (by omega) (by omega)] at h1
    subst h1
    rw [wrapI (by omega) (by omega)] at h2
    subst h2
    have : ((bn : Int) + 64 - 1).tdiv 64 = (((bn + 63) / 64 : Nat) : Int) := by
      rw [Int.tdiv_eq_ediv_of_nonneg (by omega)]
      omega
    rw [this, wrapI (by omega) (by omega)] at h3
    exact h3.symm
  have h4' : 0 ≤ ct → a4 = 4294967296 - ct := fun h => by rw [← h4, wrapI (by omega) (by omega)]
  -- to the refusal or to the channel
  have key : Co Tryd.prog true ShS (fun _ g w1 => Keeps (fun b => b < w.heap.size) w w1 ∧ ((¬ GoodT kn nn bn ct ∧ g = G (c.finish (.slice none 0 0)) cs) ∨ (GoodT kn nn bn ct ∧ ∃ β, g = G (goodR (.slice kp kn kc) (.slice np nn nc) ct bp bn bc a1 a2 a3 a4 (strL (firstN KS 0 NS)).toArray β) (c :: cs) ∧ w.heap.size ≤ β ∧ w1.heap[β]? = some (.cells (strL (firstN KS 0 NS)).toArray 48 (0, 0)))))
      (fun b => b < w.heap.size) (G (Frame.enter Tryd.prog 8 #[.slice kp kn kc, .int .i64 ct, .slice np nn nc, .slice bp bn bc] .normal) (c :: cs)) w := by
    refine first_R _ _ ct bp bn bc a1 a2 a3 h1 h2 h3 (c :: cs) ?_
    have refuse : ∀ w1 (M' : Nat → Prop), Keeps (fun b => b < w.heap.size) w w1 → (∀ b, b < w.heap.size → M' b) → (∀ b, M' b → b < w1.heap.size) → ¬ (kn = 32 ∧ nn = 12) → Co Tryd.prog true ShS (fun _ g w1 => Keeps (fun b => b < w.heap.size) w w1 ∧ ((¬ GoodT kn nn bn ct ∧ g = G (c.finish (.slice none 0 0)) cs) ∨ (GoodT kn nn bn ct ∧ ∃ β, g = G (goodR (.slice kp kn kc) (.slice np nn nc) ct bp bn bc a1 a2 a3 a4 (strL (firstN KS 0 NS)).toArray β) (c :: cs) ∧ w.heap.size ≤ β ∧ w1.heap[β]? = some (.cells (strL (firstN KS 0 NS)).toArray 48 (0, 0))))) M' (G ((call1R (.slice kp kn kc) (.slice np nn nc) ct bp bn bc a1 a2 a3 undef [2, 3, 4, 5, 6, 7, 8]).finish (.tuple #[.agg (Array.replicate 16 (.int .u32 0)), .bool false])) (c :: cs)) w1 := fun w1 M' hk hM hl hno => by
      rw [finish_R]
      have hz := hk.size
      refine second_R _ _ ct bp bn bc a1 a2 a3 _ false (fun v hv => by rw [Array.eq_of_mem_replicate hv]; rfl) (by simp) (by rw [Array.all_eq_true']; intro v hv; rw [Array.eq_of_mem_replicate hv]; rfl) (c :: cs) hl (fun b hb => by have := hSw b hb; omega) fun β w2 hk2 hb1 hb2 hb3 => ?_
      refine no1_R _ _ ct bp bn bc a1 a2 a3 _ β (c :: cs) fun tmps todo h8 => leave_R tmps todo _ c cs h8 (.stop fun w3 hk3 => ⟨?_, .inl ⟨fun h => hno ⟨h.1, h.2.1⟩, rfl⟩⟩)
      exact (hk.trans (hk2.less fun b hb => hM b hb)).trans (hk3.less fun b hb => .inl (hM b hb))
    by_cases hkn : kn = 32
    · subst hkn
      by_cases hnn : nn = 12
      · subst hnn
        obtain ⟨b1, o1, rfl, hb1, hc1⟩ := hK.at (by omega)
        obtain ⟨b2, o2, rfl, hb2, hc2⟩ := hN.at (by omega)
        refine newStream_co b1 o1 kc b2 o2 nc KS NS _ (c :: cs) hK.len hN.len hK.cap hN.cap hK.low hN.low hc1 hc2 hb1 hb2 (fun b hb => hb) hSw fun w1 M' hk hM _ hl => ?_
        rw [finish_R]
        have hz := hk.size
        refine second_R _ _ ct bp bn bc a1 a2 a3 _ true (strL_flat _) (by simp [strL_length, firstN_length]) (by rw [Array.all_eq_true']; intro v hv; exact strL_one _ v (by simpa using hv)) (c :: cs) hl (fun b hb => by have := hSw b hb; omega) fun β w2 hk2 hβ1 hβ2 hβ3 => ?_
        have hkeep : ∀ w3, Keeps (fun b => M' b ∨ b = β) w2 w3 → Keeps (fun b => b < w.heap.size) w w3 := fun w3 hk3 => (hk.trans (hk2.less fun b hb => hM b hb)).trans (hk3.less fun b hb => .inl (hM b hb))
        have no : ∀ (_ : ¬ GoodT 32 12 bn ct) tmps todo, tmps.getD 8 undef = .slice none 0 0 → Co Tryd.prog true ShS _ (fun b => M' b ∨ b = β) (G { bR.at ⟨tmps, []⟩ todo with mode := .returning } (c :: cs)) w2 := fun hno tmps todo h8 => leave_R (Stop := fun _ g w1 => Keeps (fun b => b < w.heap.size) w w1 ∧ ((¬ GoodT 32 12 bn ct ∧ g = G (c.finish (.slice none 0 0)) cs) ∨ (GoodT 32 12 bn ct ∧ ∃ β, g = G (goodR (.slice (some ⟨b1, o1, none⟩) 32 kc) (.slice (some ⟨b2, o2, none⟩) 12 nc) ct bp bn bc a1 a2 a3 a4 (strL (firstN KS 0 NS)).toArray β) (c :: cs) ∧ w.heap.size ≤ β ∧ w1.heap[β]? = some (.cells (strL (firstN KS 0 NS)).toArray 48 (0, 0))))) tmps todo _ c cs h8 (.stop fun w3 hk3 => ⟨hkeep w3 hk3, .inl ⟨hno, rfl⟩⟩)
        by_cases q1 : (4000 : Int) < bn
        · exact no2_R _ _ ct bp bn bc a1 a2 a3 _ β q1 (c :: cs) (no fun h => by have := h.2.2.1; omega)
        · by_cases q2 : ct < 0
          · exact no3_R _ _ ct bp bn bc a1 a2 a3 _ β q1 q2 (c :: cs) (no fun h => by have := h.2.2.2.1; omega)
          · have e3 := hm (by omega)
            have e4 := h4' (by omega)
            by_cases q3 : a4 < a3
            · exact no4_R _ _ ct bp bn bc a1 a2 a3 a4 _ β q1 q2 h4 q3 (c :: cs) (no fun h => by have := h.2.2.2.2; omega)
            · refine yes_R _ _ ct bp bn bc a1 a2 a3 a4 _ β q1 q2 h4 q3 (c :: cs) (.stop fun w3 hk3 => ⟨hkeep w3 hk3, .inr ⟨⟨rfl, rfl, by omega, by omega, by omega⟩, β, rfl, by omega, (hk3.heap β (.inr rfl)).trans hβ3⟩⟩)
      · exact ns2_R kp np kc nn nc _ (c :: cs) (by omega) (fun b hb => hb) hSw fun w1 M' hk hM _ hl => refuse w1 M' hk hM hl fun h => hnn h.2
    · exact ns1_R kp kn kc _ _ (c :: cs) (by omega) (fun b hb => hb) hSw fun w1 M' hk hM _ hl => refuse w1 M' hk hM hl fun h => hkn h.1
  refine (Bes.of_co key (fun b hb => hb) fun _ g w1 h _ => h).bind fun g w1 ⟨hk, h⟩ => ?_
  rcases h with ⟨hno, rfl⟩ | ⟨hg, β, rfl, hβ1, hβ2⟩
  · exact .now ⟨_, rfl, hk, .inl ⟨hno, rfl⟩⟩
  · obtain ⟨rfl, rfl, g3, g4, g5⟩ := id hg
    have hz := hk.size
    have e3 := hm g3
    subst e3
    obtain ⟨b1, o1, hbp, hb1, hcell⟩ : ∃ b1 o1, (0 < bn → bp = some ⟨b1, o1, none⟩) ∧ b1 < w.heap.size ∧ ∀ j u, BS[j]? = some u → w.cell? ⟨b1, o1 + j, none⟩ = some (.int .u8 u) := by
      rcases Nat.eq_zero_or_pos bn with h0 | h0
      · refine ⟨_, 0, fun h => by omega, htab, fun j u hu => ?_⟩
        have := (List.getElem?_eq_some_iff.1 hu).1
        have := hB.len
        omega
      · obtain ⟨b1, o1, x, y, z⟩ := hB.at h0
        exact ⟨b1, o1, fun _ => x, y, z⟩
    have hlen := hB.len
    refine (tail_bes _ _ ct bp bn bc a1 a2 ((bn + 63) / 64) a4 _ β c cs b1 o1 BS (fun i j => (blkB KS (ct + (i : Int)) NS).getD j 0) C e w1 (by omega) (strL_flat _) (by simp [strL_length, firstN_length]) hβ2 (fun h => by have := hSw _ h; omega) ?_ hC (block_is KS NS ct _ C e hK.low hN.low hCp g4 g5) (fun i hi => wrapI (by omega) (by omega)) (fun i hi => wrapI (by omega) (by omega)) hbp (by omega) hlen (by omega) hB.cap (fun j u hu => ?_) (fun i hi => by omega) (by omega)).bind fun g w2 ⟨τ, q1, q2, q3, q4⟩ => .now ⟨_, q1, ?_, .inr ⟨hg, τ, rfl, by omega, ?_⟩⟩
    · obtain ⟨lo, hi, h, hl⟩ := hT
      exact ⟨lo, hi, (hk.heap _ htab).trans h, hl⟩
    · exact (cell_keeps hk (a := ⟨b1, o1 + j, none⟩) hb1).trans (hcell j u hu)
    · exact hk.trans (q3.less fun b hb => Nat.lt_of_lt_of_le hb hz)
    · rw [q4, strT, hlen]

end Go.Proofs.YtepbidaoloplbaaDoor

namespace Go.Proofs.YtepbidaoloplbaaDoor
open Go Go.Conc Go.RowKit

theorem bits_swap (u v : Int) : bits BinOp.xor IntKind.u8 u v = bits BinOp.xor IntKind.u8 v u := by
  simp only [bits]
  rw [BitVec.xor_comm]
theorem xorL_swap : ∀ (xs ys : List Int), xorL xs ys = xorL ys xs
  | [], ys => by simp [xorL]
  | x :: xs, [] => by simp [xorL]
  | x :: xs, y :: ys => by
    have ih := xorL_swap xs ys
    simp only [xorL, List.zipWith_cons_cons] at ih ⊢
    rw [ih, bits_swap]
theorem sixtyL_self {B : List Int} (h : B.length = 64) : sixtyL (fun j => B.getD j 0) = B := by
  apply List.ext_getElem?
  intro j
  rcases Nat.lt_or_ge j 64 with hj | hj
  · simp only [sixtyL, List.getElem?_map, List.getElem?_range hj, Option.map_some, List.getD_eq_getElem?_getD, List.getElem?_eq_getElem (show j < B.length by omega), Option.getD_some]
  · rw [List.getElem?_eq_none (by rw [sixtyL_length]; exact hj), List.getElem?_eq_none (by omega)]
theorem out_same (KS : List Int) (ct : Int) (NS BS : List Int) (i : Nat) : outR BS (fun i j => (blkB KS (ct + (i : Int)) NS).getD j 0) i = outS KS ct NS BS i := by
  induction i with
  | zero => rfl
  | succ i ih => rw [outR, outS, ih, sixtyL_self (blkB_length _ _ _), xorL_swap]
theorem good_ok {KS NS BS : List Int} {ct : Int} (h : GoodT KS.length NS.length BS.length ct) : strS KS ct NS BS = strT KS ct NS BS := by
  obtain ⟨h1, h2, h3, h4, h5⟩ := h
  have hS : strOk KS.length NS.length BS.length ct := ⟨h3, fun i hi => ⟨h1, h2, by omega, by omega⟩⟩
  rw [strS, if_pos hS, strT, out_same]
theorem good_no {KS NS BS : List Int} {ct : Int} (h : ¬ GoodT KS.length NS.length BS.length ct) : strS KS ct NS BS = [] := by
  unfold strS
  split
  · rename_i hS
    rcases Nat.eq_zero_or_pos BS.length with h0 | h0
    · rw [h0]
      rfl
    · obtain ⟨a1, a2, a3, _⟩ := hS.2 0 (by omega)
      obtain ⟨_, _, _, a4⟩ := hS.2 ((BS.length + 63) / 64 - 1) (by omega)
      exact absurd ⟨a1, a2, hS.1, by omega, by omega⟩ h
  · rfl

end Go.Proofs.YtepbidaoloplbaaDoor

namespace Go.Proofs.YtepbidaoloplbaaDoor.Alt
open Go.RowKit

theorem turned_by (x : Nat) (k : Int) (m : Nat) (w : World) (hx : x < 4294967296) (hm : countN k = m) :
    Calls Altd.prog 54 #[.int .u32 x, .int .i64 k] w fun e w' => e = .returned (.int .u32 ((turnN x m : Nat) : Int)) ∧ w' = w := by
  subst hm
  exact turned_same x k w hx

set_option maxRecDepth 100000 in
set_option maxHeartbeats 2400000 in
theorem quarter_same (a b c d : Nat) (w : World) (hb : b < 4294967296) (hd : d < 4294967296) :
    Calls Altd.prog 43 #[.int .u32 (a : Int), .int .u32 (b : Int), .int .u32 (c : Int), .int .u32 (d : Int)] w fun e w' => e = .returned (.tuple #[.int .u32 ((quarterN a b c d).1 : Int), .int .u32 ((quarterN a b c d).2.1 : Int), .int .u32 ((quarterN a b c d).2.2.1 : Int), .int .u32 ((quarterN a b c d).2.2.2 : Int)]) ∧ w' = w := by
  simp only [quarterN]
  have s1 := u32_sum a b
  have m1 := u32_summ a b
  have l1 := mod_lt32 (a + b)
  generalize (a + b) % 4294967296 = a1 at s1 m1 l1 ⊢
  have x1 := u32_xor2 d a1 hd l1
  have lx1 := xor_lt32 hd l1
  generalize d ^^^ a1 = y1 at x1 lx1 ⊢
  have c1 := fun w => turned_by y1 16 16 w lx1 rfl
  have lt1 := turn_lt (m := 16) lx1 (by decide)
  generalize turnN y1 16 = d1 at c1 lt1 ⊢
  have s2 := u32_sum c d1
  have m2 := u32_summ c d1
  have l2 := mod_lt32 (c + d1)
  generalize (c + d1) % 4294967296 = c2 at s2 m2 l2 ⊢
  have x2 := u32_xor2 b c2 hb l2
  have lx2 := xor_lt32 hb l2
  generalize b ^^^ c2 = y2 at x2 lx2 ⊢
  have k2 := fun w => turned_by y2 12 12 w lx2 rfl
  have lt2 := turn_lt (m := 12) lx2 (by decide)
  generalize turnN y2 12 = b1 at k2 lt2 ⊢
  have s3 := u32_sum a1 b1
  have m3 := u32_summ a1 b1
  have l3 := mod_lt32 (a1 + b1)
  generalize (a1 + b1) % 4294967296 = a2 at s3 m3 l3 ⊢
  have x3 := u32_xor2 d1 a2 lt1 l3
  have lx3 := xor_lt32 lt1 l3
  generalize d1 ^^^ a2 = y3 at x3 lx3 ⊢
  have k3 := fun w => turned_by y3 8 8 w lx3 rfl
  have lt3 := turn_lt (m := 8) lx3 (by decide)
  generalize turnN y3 8 = d2 at k3 lt3 ⊢
  have s4 := u32_sum c2 d2
  have m4 := u32_summ c2 d2
  have l4 := mod_lt32 (c2 + d2)
  generalize (c2 + d2) % 4294967296 = c3 at s4 m4 l4 ⊢
  have x4 := u32_xor2 b1 c3 lt2 l4
  have lx4 := xor_lt32 lt2 l4
  generalize b1 ^^^ c3 = y4 at x4 lx4 ⊢
  have k4 := fun w => turned_by y4 7 7 w lx4 rfl
  generalize turnN y4 7 = b2 at k4 ⊢
  clear lt1 lt2 lt3 l1 l2 l3 l4 lx1 lx2 lx3 lx4 hb hd
  go_enter Altd.func43, Altd.ntmps43
  go_wp2_with (fail)
  refine (c1 _).mono ?_
  rintro e w1 ⟨rfl, rfl⟩
  go_wp2_with (fail)
  refine (k2 _).mono ?_
  rintro e w1 ⟨rfl, rfl⟩
  go_wp2_with (fail)
  refine (k3 _).mono ?_
  rintro e w1 ⟨rfl, rfl⟩
  go_wp2_with (fail)
  refine (k4 _).mono ?_
  rintro e w1 ⟨rfl, rfl⟩
  go_wp2
  (try simp only [Exit.inBlock, Exit.then])
  refine bodyPost_ret (v := .tuple #[.int .u32 (a2 : Int), .int .u32 (b2 : Int), .int .u32 (c3 : Int), .int .u32 (d2 : Int)]) ?_ rfl ⟨rfl, rfl⟩
  simp [results, asAddr]

end Go.Proofs.YtepbidaoloplbaaDoor.Alt

namespace Go.Proofs.YtepbidaoloplbaaDoor.Alt
open Go.RowKit
set_option maxRecDepth 100000

set_option maxHeartbeats 2000000 in
theorem growNilI_any (n : Nat) (w : World) (h0 : 0 < n) (hn : n ≤ 1073741824) :
    Calls Altd.prog 55 #[.slice none 0 0, .int .i64 n] w fun e w' => ∃ p c, e = .returned (.slice p 0 c) ∧ w'.ownsRow w.heap.size 3 1 (.slice p 0 c) 0 (([] : List Int).map (Value.int .i64)) ∧ Below w.heap.size w w' := by
  obtain ⟨i0, hi, hz0, hz1, hz2⟩ := info_parts infoInt
  have h1 : ¬ ((n : Int) < 0) := by omega
  have h4 : (n : Int) > 0 := by omega
  have hrz := fun ty => Lib.run_append_nil_zeros (P := Altd.prog) w 32 3 ty 3 i0 (.int .i64 0) .i64 .i64 Altd.underlying32 Altd.underlying3 hi hz0 n h0 (by omega) (by omega) (by rw [hz2]; omega)
  have hge := grownCap_ge w n 0 3
  have hcm := grownCap_le_maxLen w n 0 3 (by unfold maxLen; omega)
  generalize grownCap w n 0 3 = G at hrz hge hcm
  have hown : (w.drew.alloc (.cells (Builtin.zeroCells (Value.cells (.int .i64 0)) n ++ Builtin.zeroCells (Value.cells (.int .i64 0)) (G - n)) 3)).ownsRow w.heap.size 3 1 (.slice (some ⟨w.heap.size, 0, none⟩) 0 G) 0 (([] : List Int).map (Value.int .i64)) :=
    World.ownsRow_made w.drew _ G (by simp) hcm (by simp [size_zeroCells, Value.cells]; omega)
  have hbel : Below w.heap.size w (w.drew.alloc (.cells (Builtin.zeroCells (Value.cells (.int .i64 0)) n ++ Builtin.zeroCells (Value.cells (.int .i64 0)) (G - n)) 3)) := (Below.refl _ _).drew.alloc (by simp) _
  generalize w.drew.alloc (.cells (Builtin.zeroCells (Value.cells (.int .i64 0)) n ++ Builtin.zeroCells (Value.cells (.int .i64 0)) (G - n)) 3) = w1 at hrz hown hbel
  unfold maxLen at hcm
  go_enter Altd.func55, Altd.ntmps55
  go_wp2_with (at_builtin; refine Lib.wpList_append_run _ rfl _ _ _ _ rfl _ _ rfl rfl _ _ (hrz _) ?_)
  all_goals (go_ret; exact ⟨_, _, rfl, hown, hbel⟩)

set_option maxHeartbeats 4000000 in
theorem concatI_any (gr m : Nat) (Pf : Nat → Option Addr) (nf cf : Nat → Nat) (xf : Nat → List Int) (w : World) (hm : m ≤ 1000) (hcell : ∀ k, k < m → w.cell? ⟨gr, k, none⟩ = some (.slice (Pf k) (nf k) (cf k)))
    (hlen : ∀ k, k < m → (xf k).length = nf k) (hin : ∀ k, k < m → IntsIn w (Pf k) (nf k) (xf k)) (h0 : 0 < sumN nf m) (hs : sumN nf m ≤ 1073741824) :
    Calls Altd.prog 49 #[.slice (some ⟨gr, 0, none⟩) m m] w fun e w' => ∃ p c, e = .returned (.slice p (sumN nf m) c) ∧ OwnI 3 w' w.heap.size w'.heap.size (.slice p (sumN nf m) c) (sumN nf m) (catL xf m) ∧ Below w.heap.size w w' := by
  obtain ⟨i0, hi, hz0, hz1, hz2⟩ := info_parts infoInt
  have HC : Hid (∀ k, k < m → w.cell? ⟨gr, k, none⟩ = some (.slice (Pf k) (nf k) (cf k))) := hcell
  have HL : Hid (∀ k, k < m → (xf k).length = nf k) := hlen
  have HI : Hid (∀ k, k < m → IntsIn w (Pf k) (nf k) (xf k)) := hin
  clear hcell hlen hin
  go_enter Altd.func49, Altd.ntmps49
  go_wp2
  go_loop [3, 11] (fun v i => ∃ k s : Nat, k ≤ m ∧ i = .int .i64 k ∧ v = .int .i64 s ∧ Hid (s = sumN nf k)) (fun _ i => m - (intOf i).toNat)
  case atStart => exact ⟨0, 0, by omega, rfl, rfl, rfl⟩
  case round =>
    obtain ⟨k, s, hk, rfl, rfl, hsk⟩ := hrel
    by_cases hlt : k < m
    · have hc := HC.out k hlt
      have hle : s + nf k ≤ 1073741824 := by rw [hsk.out]; exact Nat.le_trans (sumN_le nf (k := k + 1) hlt) hs
      have HN : Hid (s + nf k = sumN nf (k + 1)) := by rw [hsk.out]; rfl
      generalize nf k = n1 at hc hle HN
      generalize Pf k = p1 at hc
      generalize cf k = c1 at hc
      have hneg : ¬ ((s : Int) + (n1 : Int) < 0) := by omega
      go_wp2
      go_round
      case rel => exact ⟨k + 1, s + n1, by omega, by go_num, by go_num, HN⟩
      case measure => simp [intOf]; omega
    · obtain rfl : k = m := by omega
      obtain rfl : s = sumN nf k := hsk.out
      clear hsk
      have HS : Hid (sumN nf k = sumN nf k) := rfl
      generalize hN : sumN nf k = N at h0 hs HS ⊢
      clear HS
      have HNn : Hid (sumN nf k = N) := hN
      clear hN
      have hneg : ¬ ((N : Int) < 0) := by omega
      go_wp2_with (fail)
      refine (growNilI_any N _ h0 hs).mono ?_
      rintro e w1 ⟨p1, c1, rfl, ho1, b1⟩
      go_wp2_with (fail)
      go_loopw [6, 27] (fun v i wr => ∃ j s : Nat, j ≤ k ∧ i = .int .i64 j ∧ Hid (s = sumN nf j) ∧ wr.ownsRow w.heap.size 3 1 v s ((catL xf j).map (Value.int .i64)) ∧ Below w.heap.size w wr)
        (fun _ i _ => k - (intOf i).toNat)
      case atStart => exact ⟨0, 0, by omega, rfl, rfl, ho1, b1⟩
      case round =>
        clear ho1 b1
        obtain ⟨j, s, hj, rfl, hsj, hown, hbel⟩ := hrel
        have hsz := hbel.size
        by_cases hlt2 : j < k
        · have hc := HC.out j hlt2
          have hgr : gr < w.heap.size := World.block_lt_of_cell? w ⟨gr, j, none⟩ hc
          have hc2 := (hbel.cell (p := ⟨gr, j, none⟩) hgr).trans hc
          have hle : s + nf j ≤ N := by rw [hsj.out, ← HNn.out]; exact sumN_le nf (k := j + 1) hlt2
          have HN : Hid (s + nf j = sumN nf (j + 1)) := by rw [hsj.out]; rfl
          have hl := HL.out j hlt2
          have hI := HI.out j hlt2
          replace hI : IntsIn wr (Pf j) (nf j) (xf j) := by
            intro hpos
            obtain ⟨bb, oo, e1, e2⟩ := hI hpos
            exact ⟨bb, oo, e1, fun i hi => (hbel.cell (p := ⟨bb, oo + i, none⟩) (World.block_lt_of_cell? w ⟨bb, oo + i, none⟩ (e2 i hi))).trans (e2 i hi)⟩
          have HX : Hid (catL xf j ++ xf j = catL xf (j + 1)) := rfl
          generalize nf j = n1 at hc hc2 hle HN hl hI
          generalize Pf j = p1 at hc hc2 hI
          generalize cf j = c1 at hc hc2
          generalize xf j = y1 at hl hI HX
          obtain ⟨q, cq, hv⟩ := owns_form hown
          subst hv
          clear hc
          go_wp2_with (at_builtin; refine list_spreadIA hi hz0 hz1 hz2 (.tmp 31) (.tmp 32) 32 Altd.underlying32 hown hI hl (by omega) (by omega) hsz (by rfl) (by rfl) (by rfl) (by rfl) ?_; intro p' cap w3 ho3 hb3; rw [HX.out] at ho3)
          go_roundw
          case rel => exact ⟨j + 1, s + n1, by omega, by go_num, HN, ho3, hbel.trans hb3⟩
          case measure => simp [intOf]; omega
        · obtain rfl : j = k := by omega
          obtain rfl : s = N := hsj.out.trans HNn.out
          obtain ⟨q, cq, hv⟩ := owns_form hown
          subst hv
          go_wp2
          go_ret
          rw [HNn.out]
          exact ⟨_, _, rfl, .of hown, hbel⟩

theorem concat4I (p0 p1 p2 p3 : Option Addr) (n0 n1 n2 n3 c0 c1 c2 c3 : Nat) (xs0 xs1 xs2 xs3 : List Int) (w0 : World) (hx0 : xs0.length = n0) (hx1 : xs1.length = n1) (hx2 : xs2.length = n2) (hx3 : xs3.length = n3) (h0 : 0 < n0 + n1 + n2 + n3) (hs1 : n0 + n1 + n2 + n3 ≤ 1048576)
    (i0 : IntsIn w0 p0 n0 xs0) (i1 : IntsIn w0 p1 n1 xs1) (i2 : IntsIn w0 p2 n2 xs2) (i3 : IntsIn w0 p3 n3 xs3) (gr : Nat) (hgr : w0.heap.size = gr) :
    Calls Altd.prog 49 #[.slice (some ⟨gr, 0, none⟩) 4 4] (w0.alloc (.cells #[.slice p0 n0 c0, .slice p1 n1 c1, .slice p2 n2 c2, .slice p3 n3 c3] 32)) fun e w' =>
      ∃ p' c', e = .returned (.slice p' (n0 + n1 + n2 + n3) c') ∧ OwnI 3 w' w0.heap.size w'.heap.size (.slice p' (n0 + n1 + n2 + n3) c') (n0 + n1 + n2 + n3) (xs0 ++ xs1 ++ xs2 ++ xs3) ∧ Below w0.heap.size w0 w' := by
  subst hgr
  have ba : Below w0.heap.size w0 (w0.alloc (.cells #[.slice p0 n0 c0, .slice p1 n1 c1, .slice p2 n2 c2, .slice p3 n3 c3] 32)) := (Below.refl _ _).alloc (Nat.le_refl _) _
  have hs : sumN (fun k => match k with | 0 => n0 | 1 => n1 | 2 => n2 | _ => n3) 4 = n0 + n1 + n2 + n3 := by simp [sumN]
  have hc : catL (fun k => match k with | 0 => xs0 | 1 => xs1 | 2 => xs2 | _ => xs3) 4 = xs0 ++ xs1 ++ xs2 ++ xs3 := by simp [catL]
  have h := concatI_any w0.heap.size 4 (fun k => match k with | 0 => p0 | 1 => p1 | 2 => p2 | _ => p3) (fun k => match k with | 0 => n0 | 1 => n1 | 2 => n2 | _ => n3) (fun k => match k with | 0 => c0 | 1 => c1 | 2 => c2 | _ => c3) (fun k => match k with | 0 => xs0 | 1 => xs1 | 2 => xs2 | _ => xs3)
    (w0.alloc (.cells #[.slice p0 n0 c0, .slice p1 n1 c1, .slice p2 n2 c2, .slice p3 n3 c3] 32)) (by decide)
    (fun k hk => by
      rw [cell_of_row _ _ k _ _ _ (heap_alloc_new w0 _)]
      match k, hk with
      | 0, _ => rfl
      | 1, _ => rfl
      | 2, _ => rfl
      | 3, _ => rfl)
    (fun k hk => by
      match k, hk with
      | 0, _ => exact hx0
      | 1, _ => exact hx1
      | 2, _ => exact hx2
      | 3, _ => exact hx3)
    (fun k hk => by
      match k, hk with
      | 0, _ => exact in_belowI i0 ba
      | 1, _ => exact in_belowI i1 ba
      | 2, _ => exact in_belowI i2 ba
      | 3, _ => exact in_belowI i3 ba)
    (by rw [hs]; omega) (by rw [hs]; omega)
  rw [hs, hc] at h
  refine h.mono ?_
  rintro e w' ⟨p', c', rfl, r, b⟩
  exact ⟨p', c', rfl, ⟨owns_mono r.1 (by simp), r.2⟩, below_on ba b⟩

end Go.Proofs.YtepbidaoloplbaaDoor.Alt

namespace Go.Proofs.YtepbidaoloplbaaDoor.Alt
open Go.RowKit
set_option maxRecDepth 100000

theorem infoStr : (Altd.prog.info? 48).map (fun i => (i.zero, i.size)) = some (some (.agg (strL zero16).toArray), 16) := by kernel_rfl

set_option maxRecDepth 100000 in
set_option maxHeartbeats 2400000 in
theorem newStream_no (p q : Option Addr) (n m c d : Nat) (w : World) (hno : ¬ (n = 32 ∧ m = 12)) :
    Calls Altd.prog 29 #[.slice p n c, .slice q m d] w fun e w' => e = .returned (.tuple #[.agg (strL zero16).toArray, .bool false]) ∧ Below w.heap.size w w' := by
  have hz := (zero_of_info infoStr).1
  have hsz0 := (zero_of_info infoStr).2
  have m1 := fun X : World => StrIs.made X w.heap.size zero16 rfl
  obtain ⟨Z, hZ⟩ : ∃ Z, Z = (strL zero16).toArray := ⟨_, rfl⟩
  rw [← hZ] at hz
  simp only [← hZ] at m1
  clear hZ
  have hone : ∀ v ∈ strL zero16, v.oneCell' = true := strL_one _
  have hsz : (Altd.prog.info? 48).map (·.size) = some (strL zero16).length := hsz0
  have hsz2 : (Altd.prog.info? 48).map (·.size) = some (strL zero16).toArray.size := hsz0
  have hsC : (strL zero16).toArray.size = 16 := rfl
  have ba : Below w.heap.size w (w.alloc (.cells Z 48)) := (Below.refl _ _).alloc (Nat.le_refl _) _
  have sa : (w.alloc (.cells Z 48)).heap.size = w.heap.size + 1 := by simp
  have h3 := m1 (w.alloc (.cells Z 48)) (by omega)
  have bb : Below (w.alloc (.cells Z 48)).heap.size (w.alloc (.cells Z 48)) ((w.alloc (.cells Z 48)).alloc (.cells Z 48)) := (Below.refl _ _).alloc (Nat.le_refl _) _
  rw [sa] at h3
  have h2 := (m1 w (Nat.le_refl _)).below bb
  have bel := below_on ba bb
  have hth2 : ((w.alloc (.cells Z 48)).alloc (.cells Z 48)).there w.heap.size 0 (strL zero16).toArray.size := by rw [hsC]; exact h2.there
  have hra := h3.range
  have hp := h2.put (S' := zero16) rfl
  have hld := run_loadVar_mid (P := Altd.prog) _ w.heap.size 0 48 _ _ hp.1.range Altd.underlying48 rfl hsz
  have hbel : Below w.heap.size w (((w.alloc (.cells Z 48)).alloc (.cells Z 48)).setCells w.heap.size 0 (strL zero16)) := bel.grown hp.2 bel.size (fun k hk => by cases hk; exact Nat.le_refl _)
  obtain ⟨Cs, hCs⟩ : ∃ Cs, Cs = strL zero16 := ⟨_, rfl⟩
  rw [← hCs] at hra hsz hsz2 hth2 hbel hld hone
  replace hCs : Hid (Cs = strL zero16) := hCs
  clear hp h2 h3 bel m1 ba sa bb hsC
  by_cases t0 : n = 32
  · have t1 : m ≠ 12 := fun h => hno ⟨t0, h⟩
    subst t0
    have z1 : ((m : Int) != 12) = true := by simp; omega
    clear hno
    go_enter Altd.func29, Altd.ntmps29
    go_wp2_with (first | (refine wpList_load_mid rfl 48 _ rfl (w.heap.size + 1) 0 rfl Cs _ hra Altd.underlying48 rfl hsz ?_) | (refine wpList_store_mid rfl 48 _ _ rfl w.heap.size 0 Cs.toArray rfl rfl hth2 hsz2 (all_oneCell_toArray hone) ?_))
    (try simp only [Exit.inBlock, Exit.then])
    refine bodyPost_ret (v := .tuple #[.agg Cs.toArray, .bool false]) ?_ rfl ⟨by rw [hCs.out], hbel⟩
    simp [results, asAddr, hld]
  · have z0 : ((n : Int) != 32) = true := by simp; omega
    clear hno
    go_enter Altd.func29, Altd.ntmps29
    go_wp2_with (first | (refine wpList_load_mid rfl 48 _ rfl (w.heap.size + 1) 0 rfl Cs _ hra Altd.underlying48 rfl hsz ?_) | (refine wpList_store_mid rfl 48 _ _ rfl w.heap.size 0 Cs.toArray rfl rfl hth2 hsz2 (all_oneCell_toArray hone) ?_))
    (try simp only [Exit.inBlock, Exit.then])
    refine bodyPost_ret (v := .tuple #[.agg Cs.toArray, .bool false]) ?_ rfl ⟨by rw [hCs.out], hbel⟩
    simp [results, asAddr, hld]

set_option maxRecDepth 100000 in
set_option maxHeartbeats 4000000 in
theorem newStream_yes (p q : Option Addr) (c d : Nat) (ks ns : List Int) (w : World) (hc : 32 ≤ c) (hd : 12 ≤ d) (hx : ks.length = 32) (hy : ns.length = 12) (h : BytesIn w p 32 ks) (h' : BytesIn w q 12 ns) (hb1 : ∀ x ∈ ks, 0 ≤ x ∧ x < 256) (hb2 : ∀ x ∈ ns, 0 ≤ x ∧ x < 256) :
    Calls Altd.prog 29 #[.slice p 32 c, .slice q 12 d] w fun e w' => e = .returned (.tuple #[.agg (strL (firstN ks 0 ns)).toArray, .bool true]) ∧ Below w.heap.size w w' := by
  have hz := (zero_of_info infoStr).1
  have hsz0 := (zero_of_info infoStr).2
  have m1 := fun X : World => StrIs.made X w.heap.size zero16 rfl
  obtain ⟨Z, hZ⟩ : ∃ Z, Z = (strL zero16).toArray := ⟨_, rfl⟩
  rw [← hZ] at hz
  simp only [← hZ] at m1
  clear hZ
  have C1 := fun X hX => implWords_any p 32 c false ks X (by omega) hc hx hX hb1
  have C2 := fun X hX => implWords_any q 12 d false ns X (by omega) hd hy hX hb2
  have l1 : (wordsL false ks (32 / 4)).length = 8 := by simp [wordsL]
  have l2 : (wordsL false ns (12 / 4)).length = 3 := by simp [wordsL]
  have HF : Hid ([1634760805, 857760878, 2036477234, 1797285236] ++ wordsL false ks (32 / 4) ++ [0] ++ wordsL false ns (12 / 4) = firstL ks 0 ns) := rfl
  have lF := firstL_length ks 0 ns
  have lT := firstN_length ks 0 ns
  have HT : Hid (∀ k, (firstN ks 0 ns).getD k 0 = wordN ((firstL ks 0 ns).getD k 0)) := fun k => by
    simp only [firstN, List.getD_eq_getElem?_getD, List.getElem?_map]
    cases (firstL ks 0 ns)[k]? <;> rfl
  simp only [Nat.reduceDiv] at C1 C2 l1 l2 HF
  generalize firstN ks 0 ns = T at HT lT ⊢
  generalize firstL ks 0 ns = F at HF HT lF
  generalize wordsL false ks 8 = W1 at C1 l1 HF
  generalize wordsL false ns 3 = W2 at C2 l2 HF
  have hsC : (strL T).toArray.size = 16 := by simp [strL_length, lT]
  have hone : ∀ v ∈ strL T, v.oneCell' = true := strL_one _
  have hsz : (Altd.prog.info? 48).map (·.size) = some (strL T).length := by rw [strL_length, lT]; exact hsz0
  have hsz2 : (Altd.prog.info? 48).map (·.size) = some (strL T).toArray.size := by rw [hsC]; exact hsz0
  go_enter Altd.func29, Altd.ntmps29
  go_wp2_with (fail)
  have h2 := m1 w (Nat.le_refl _)
  have ba : Below w.heap.size w (w.alloc (.cells Z 48)) := (Below.refl _ _).alloc (Nat.le_refl _) _
  have sa : (w.alloc (.cells Z 48)).heap.size = w.heap.size + 1 := by simp
  generalize w.alloc (.cells Z 48) = wa at h2 ba sa ⊢
  have h3 := m1 wa (by omega)
  have bb : Below wa.heap.size wa (wa.alloc (.cells Z 48)) := (Below.refl _ _).alloc (Nat.le_refl _) _
  have hwbs : (wa.alloc (.cells Z 48)).heap.size = wa.heap.size + 1 := by simp
  generalize wa.alloc (.cells Z 48) = wb at h3 bb hwbs ⊢
  rw [sa] at h3 hwbs
  replace h2 := h2.below bb
  have bel := below_on ba bb
  clear ba bb sa hz m1
  obtain ⟨B3, hB3⟩ : ∃ B3, B3 = w.heap.size + 1 := ⟨_, rfl⟩
  rw [← hB3] at h3 ⊢
  have hne : w.heap.size ≠ B3 := by omega
  have hsb := bel.size
  have hb3 : wb.heap.size = B3 + 1 := by rw [hB3]; exact hwbs
  have hge : w.heap.size ≤ B3 := by omega
  clear hB3 hwbs
  obtain ⟨wc, hwc⟩ : ∃ wc, wc = wb.alloc (.cells #[.int .i64 1634760805, .int .i64 857760878, .int .i64 2036477234, .int .i64 1797285236] 3) := ⟨_, rfl⟩
  have bc : Below wb.heap.size wb wc := by rw [hwc]; exact (Below.refl _ _).alloc (Nat.le_refl _) _
  have hcs : wc.heap.size = B3 + 1 + 1 := by rw [hwc]; simp [hb3]
  have ic : IntsIn wc (some ⟨B3 + 1, 0, none⟩) 4 [1634760805, 857760878, 2036477234, 1797285236] := by
    rw [← hb3, hwc]
    exact owns_inI (base := wb.heap.size) (e := 3) (c := 4) ⟨rfl, .inr ⟨wb.heap.size, 4, _, rfl, Nat.le_refl _, heap_alloc_new wb _, Nat.le_refl _, by unfold maxLen; omega, rfl, rfl⟩⟩
  obtain ⟨wd, hwd⟩ : ∃ wd, wd = wc.alloc (.cells #[.int .i64 0] 3) := ⟨_, rfl⟩
  have bd : Below wc.heap.size wc wd := by rw [hwd]; exact (Below.refl _ _).alloc (Nat.le_refl _) _
  have id : IntsIn wd (some ⟨B3 + 1 + 1, 0, none⟩) 1 [0] := by
    rw [← hcs, hwd]
    exact owns_inI (base := wc.heap.size) (e := 3) (c := 1) ⟨rfl, .inr ⟨wc.heap.size, 1, _, rfl, Nat.le_refl _, heap_alloc_new wc _, Nat.le_refl _, by unfold maxLen; omega, rfl, rfl⟩⟩
  replace ic := in_belowI ic bd
  have bcd := below_on bc bd
  replace h2 := h2.below bcd
  replace h3 := h3.below bcd
  replace bel := below_on bel bcd
  rw [← hwc, ← hwd]
  clear hwc hwd bc bd bcd hcs
  refine (C1 _ (in_below h bel)).mono ?_
  rintro e w5 ⟨p5, c5, rfl, r5, b5⟩
  have i5 := r5.ints
  replace ic := in_belowI ic b5
  replace id := in_belowI id b5
  replace h2 := h2.below b5
  replace h3 := h3.below b5
  replace bel := below_on bel b5
  clear r5 b5 C1
  go_wp2_with (fail)
  refine (C2 _ (in_below h' bel)).mono ?_
  rintro e w6 ⟨p6, c6, rfl, r6, b6⟩
  have i6 := r6.ints
  replace i5 := in_belowI i5 b6
  replace ic := in_belowI ic b6
  replace id := in_belowI id b6
  replace h2 := h2.below b6
  replace h3 := h3.below b6
  replace bel := below_on bel b6
  clear r6 b6 C2
  have CC := concat4I (some ⟨B3 + 1, 0, none⟩) p5 (some ⟨B3 + 1 + 1, 0, none⟩) p6 4 8 1 3 4 c5 1 c6 [1634760805, 857760878, 2036477234, 1797285236] W1 [0] W2 w6 rfl l1 rfl l2 (by omega) (by omega) ic i5 id i6 _ rfl
  rw [HF.out] at CC
  clear ic i5 id i6 l1 l2 HF
  go_wp2_with (fail)
  refine CC.mono ?_
  rintro e w7 ⟨p7, c7, rfl, r7, b7⟩
  have hl3 := h3.lt.2
  have hl2 := h2.lt.2
  replace h2 := h2.below b7
  replace h3 := h3.below b7
  replace bel := below_on bel b7
  obtain ⟨g7, hg7⟩ := owns_at r7.1 (by decide)
  subst hg7
  have hl7 := r7.1.lt g7 rfl
  have hne7 : B3 ≠ g7 := by omega
  have I7 := r7.ints
  obtain ⟨w8, hw8⟩ : ∃ w8, w8 = w7 := ⟨_, rfl⟩
  have HC : Hid (∀ i, i < 16 → w8.cell? ⟨g7, i, none⟩ = some (.int .i64 (F.getD i 0))) := by
    obtain ⟨bb, oo, e1, e2⟩ := I7 (by decide)
    simp only [Option.some.injEq, Addr.mk.injEq, and_true] at e1
    obtain ⟨rfl, rfl⟩ := e1
    intro i hi
    have := e2 i hi
    rw [Nat.zero_add] at this
    rw [hw8]
    exact this
  have hg8 : g7 < w8.heap.size := by rw [hw8]; exact hl7.2
  have hgr0 : w8.grownBy w7 (some B3) := by rw [hw8]; exact World.grownBy.refl _ _
  have bel8 : Below w.heap.size w w8 := by rw [hw8]; exact bel
  have h28 : StrIs w8 w.heap.size w.heap.size zero16 := by rw [hw8]; exact h2
  have h30 : StrIs w7 w.heap.size B3 (strFill T 0) := h3
  have hcap := owns_cap r7.1
  clear CC b7 r7 I7 hl3 hl2 hl7 hw8 bel h2 h3
  go_wp2_with (fail)
  go_loopw [31] (fun i wr => ∃ k : Nat, k ≤ 16 ∧ i = .int .i64 k ∧ StrIs wr w.heap.size B3 (strFill T k) ∧ w8.grownBy wr (some B3))
    (fun i _ => 16 - (intOf i).toNat)
  case atStart => exact ⟨0, by omega, rfl, h30, hgr0⟩
  case round =>
    clear h30 hgr0
    obtain ⟨k, hk, rfl, hH, hgr⟩ := hrel
    by_cases hlt : k < 16
    · have hlt' : (k : Int) < 16 := by omega
      have cy := (cell_grownQ (p := ⟨g7, k, none⟩) hgr hg8 (Ne.symm hne7)).trans (HC.out k hlt)
      have cold := hH.cell k hlt
      rw [strFill_get lT k hlt] at cold
      have hfr := hH.frozen k
      have st := hH.set k (wordN (F.getD k 0))
      rw [strFill_set lT k hlt _ (HT.out k).symm] at st
      have hwe := wordN_eq (F.getD k 0)
      generalize wordN (F.getD k 0) = u at st hwe
      generalize F.getD k 0 = y at cy hwe
      have mu : y % 4294967296 = (u : Int) := hwe.symm
      have wu : IntKind.u32.wrap y = (u : Int) := by rw [IntKind.wrap_u32]; exact mu
      have hgr' := grown_trans hgr st.2
      have st' := st.1
      clear st hH hgr hwe
      go_wp2
      go_roundw
      case rel => exact ⟨k + 1, by omega, by go_num, st', hgr'⟩
      case measure => simp [intOf]; omega
    · have hnl : ¬ (k : Int) < 16 := by omega
      have hfin : strFill T k = T := by simp [strFill, show k = 16 by omega, List.take_of_length_le (show T.length ≤ 16 by omega)]
      rw [hfin] at hH
      clear hfin
      have hra := hH.range
      have hk2 := h28.kept hgr hne
      have hth2 : wr.there w.heap.size 0 (strL T).toArray.size := by rw [hsC]; exact hk2.there
      have hp := hk2.put lT
      have hbel : Below w.heap.size w (wr.setCells w.heap.size 0 (strL T)) := (bel8.grown hgr bel8.size (fun k hk => by cases hk; exact hge)).grown hp.2 (Nat.le_trans bel8.size hgr.size) (fun k hk => by cases hk; exact Nat.le_refl _)
      have hld := run_loadVar_mid (P := Altd.prog) _ w.heap.size 0 48 _ _ hp.1.range Altd.underlying48 rfl hsz
      obtain ⟨Cs, hCs⟩ : ∃ Cs, Cs = strL T := ⟨_, rfl⟩
      rw [← hCs] at hra hsz hsz2 hth2 hbel hld hone
      replace hCs : Hid (Cs = strL T) := hCs
      clear hp hk2 hH hgr
      go_wp2_with (first | (refine wpList_load_mid rfl 48 _ rfl B3 0 rfl Cs _ hra Altd.underlying48 rfl hsz ?_) | (refine wpList_store_mid rfl 48 _ _ rfl w.heap.size 0 Cs.toArray rfl rfl hth2 hsz2 (all_oneCell_toArray hone) ?_))
      (try simp only [Exit.inBlock, Exit.then])
      refine bodyPost_ret (v := .tuple #[.agg Cs.toArray, .bool true]) ?_ rfl ⟨by rw [hCs.out], hbel⟩
      simp [results, asAddr, hld]

end Go.Proofs.YtepbidaoloplbaaDoor.Alt
