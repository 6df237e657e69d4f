/-
  A part of the proof.
-/
import Derived.Test.YtnpffnhiefgglaaGreatDoorParw13
import Derived.Test.YtnpffnhiefgglaaGreatDoorParw18
import Derived.Test.YtnpffnhiefgglaaGreatDoorParw17
import Derived.Test.YtnpffnhiefgglaaGreatDoorParw12
import Derived.Test.YtnpffnhiefgglaaGreatDoorParw14
import Derived.BigQuiet
namespace Go.Proofs.YtnpffnhiefgglaaGreatDoor
open Go Go.Conc Go.RowKit
set_option maxRecDepth 100000
theorem block_is (ks ns : List Int) (ct : Int) (m : Nat) (C : Array Value) (e : TypeId) (hb1 : ∀ x ∈ ks, 0 ≤ x ∧ x < 256) (hb2 : ∀ x ∈ ns, 0 ≤ x ∧ x < 256) (hC : ∀ (j : Nat) v, placesC[j]? = some v → C[j]? = some v) (h0 : 0 ≤ ct) (h1 : ct + (m : Int) ≤ 4294967296) :
    BlockIs (strL (firstN ks 0 ns)).toArray ct m C e (fun i j => (blkB ks (ct + (i : Int)) ns).getD j 0) := by
  intro i hi wg hsz htab
  have eF := firstN_set ks ns (ct + (i : Int))
  obtain ⟨e1, e2⟩ := firstL_cast ks ns (ct + (i : Int)) ⟨by omega, by omega⟩ (wordsL_low hb1 8) (wordsL_low hb2 3)
  have HB : blkB ks (ct + (i : Int)) ns = bytesL false (sumS (tenS (firstN ks (ct + (i : Int)) ns) 10) (firstN ks (ct + (i : Int)) ns)) := blkB_cast e2 (firstN_length _ _ _) e1
  have hP : PlacesIs wg := fun j v hv => by
    simp only [World.cell?, htab, Option.isSome_none, Bool.false_eq_true, if_false, Nat.zero_add]
    exact hC j v hv
  refine (block_any (firstN ks 0 ns) (firstN ks (ct + (i : Int)) ns) (ct + (i : Int)) wg (firstN_length _ _ _) eF e2 hP).mono fun ex w1 ⟨p', c', h2, h3, h4⟩ => ⟨_, h2, ?_, ?_⟩
  · rw [← HB] at h3
    rcases h3.1.2 with ⟨_, hn⟩ | ⟨g, cap, cur, hv, hg, _⟩
    · omega
    · cases hv
      refine ⟨g, hg, 0, c', rfl, fun j hj => ?_⟩
      have hl := h3.len
      show _ = some (Value.int .u8 ((blkB ks (ct + (i : Int)) ns).getD j 0))
      rw [Nat.zero_add, h3.1.cellAt j (by omega), List.getElem?_map, List.getElem?_eq_getElem (by omega), Option.map_some, List.getD_eq_getElem?_getD, List.getElem?_eq_getElem (by omega), Option.getD_some]
  · exact (h4.block _ (Nat.lt_of_lt_of_le tableK hsz)).trans htab
/-! ### newStream -/
def alN (f : Nat) : Bool := [107, 143, 192, 142, 191, 85].contains f
theorem tameN : TameP Tryz.prog glX alN := by
  refine ⟨fun f hf => ?_, fun _ _ => rfl⟩
  simp only [alN, List.contains_cons, List.contains_nil, Bool.or_false, Bool.or_eq_true, beq_iff_eq] at hf
  rcases hf with rfl | rfl | rfl | rfl | rfl | rfl
  · exact tame_one Tryz.func107 (by kernel_rfl) (by kernel_rfl)
  · exact tame_one Tryz.func143 (by kernel_rfl) (by kernel_rfl)
  · exact tame_one Tryz.func192 (by kernel_rfl) (by kernel_rfl)
  · exact tame_one Tryz.func142 (by kernel_rfl) (by kernel_rfl)
  · exact tame_one Tryz.func191 (by kernel_rfl) (by kernel_rfl)
  · exact tame_one Tryz.func85 (by kernel_rfl) (by kernel_rfl)
noncomputable def renP (al : Nat → Bool) (b1 o1 b2 o2 : Nat) : Ren := ⟨fun b b' => (b = Tryz.prog.globals.size ∧ b' = b1) ∨ (b = Tryz.prog.globals.size + 1 ∧ b' = b2), Tryz.prog.globals.size, fun f => al f = true, fun b => if b = Tryz.prog.globals.size then o1 + 1 else if b = Tryz.prog.globals.size + 1 then o2 + 1 else 0, fun b hb => by rw [if_neg (by omega), if_neg (by omega)], 271, fun f n => glX.d f n = true⟩
theorem sit_P (al : Nat → Bool) {w : World} {b1 o1 b2 o2 : Nat} {xs ys : List Int} (hx0 : 0 < xs.length) (hy0 : 0 < ys.length) (hx : ∀ j u, xs[j]? = some u → w.cell? ⟨b1, o1 + j, none⟩ = some (.int .u8 u)) (hy : ∀ j u, ys[j]? = some u → w.cell? ⟨b2, o2 + j, none⟩ = some (.int .u8 u)) :
    Sit 0 Tryz.prog glX al ShX (renP al b1 o1 b2 o2) (ghostX w o1 xs o2 ys) w := by
  refine ⟨⟨fun b b' hb => ?_, fun b b' c' h1 h2 => ?_, fun b c b' h1 h2 => .inr ⟨h1.imp And.left And.left, h2.imp And.left And.left⟩, fun b hb => ?_, fun i q h => absurd h (Nat.not_lt_zero _), fun b b' hs hb => ?_⟩, fun b hb => ?_, ⟨rfl, bogS⟩, rfl, rfl, fun g hg => (by cases hg), by rw [ghostX_size]; omega⟩
  · rcases hb with ⟨rfl, rfl⟩ | ⟨rfl, rfl⟩
    · obtain ⟨o', h1, h2⟩ := relO_part (ρ := renP al b' o1 b2 o2) hx0 hx
      refine ⟨_, _, ghostX_one .., h1, ?_⟩
      have e : (renP al b' o1 b2 o2).lo Tryz.prog.globals.size = o1 + 1 := by simp only [renP, if_true]
      rw [e]
      exact h2
    · obtain ⟨o', h1, h2⟩ := relO_part (ρ := renP al b1 o1 b' o2) hy0 hy
      refine ⟨_, _, ghostX_two .., h1, ?_⟩
      have e : (renP al b1 o1 b' o2).lo (Tryz.prog.globals.size + 1) = o2 + 1 := by
        unfold renP
        dsimp only
        rw [if_neg (by omega), if_pos rfl]
      rw [e]
      exact h2
  · rcases h1 with ⟨h, rfl⟩ | ⟨h, rfl⟩ <;> rcases h2 with ⟨k, rfl⟩ | ⟨k, rfl⟩ <;> first | rfl | omega
  · rw [ghostX_size] at hb
    exact (if_neg (by omega)).trans (if_neg (by omega))
  · rcases hs with rfl | rfl
    · exact ⟨_, _, _, ghostX_one .., Nat.le_refl _⟩
    · exact ⟨_, _, _, ghostX_two .., Nat.le_refl _⟩
  · rw [ghostX_size]
    rcases hb with rfl | rfl <;> omega
theorem renP_lo1 (al : Nat → Bool) (b1 o1 b2 o2 : Nat) : (renP al b1 o1 b2 o2).lo Tryz.prog.globals.size = o1 + 1 := by simp only [renP, if_true]
theorem renP_lo2 (al : Nat → Bool) (b1 o1 b2 o2 : Nat) : (renP al b1 o1 b2 o2).lo (Tryz.prog.globals.size + 1) = o2 + 1 := by
  unfold renP
  dsimp only
  rw [if_neg (by omega), if_pos rfl]
theorem pair_same {ρ : Ren} {X : Array Value} {ok : Bool} {v' : Value} (h : RelV ρ (.tuple #[.agg X, .bool ok]) v') (hX : ∀ v ∈ X, flatC v = true) : v' = .tuple #[.agg X, .bool ok] := by
  cases h with
  | @tuple x x' hs hr =>
    have hs' : x'.size = 2 := hs.symm
    have h0 := hr 0 (.agg X) x'[0] rfl (Array.getElem?_eq_getElem (by omega))
    have h1 := hr 1 (.bool ok) x'[1] rfl (Array.getElem?_eq_getElem (by omega))
    have e0 : x'[0] = .agg X := by
      generalize x'[0] = y at h0
      cases h0 with
      | agg hs hr => rw [row_same ⟨hs, hr⟩ hX]
    have e1 : x'[1] = .bool ok := by
      generalize x'[1] = y at h1
      cases h1
      rfl
    congr 1
    apply Array.ext
    · exact hs'
    · intro i h1 h2
      match i, h2 with
      | 0, _ => exact e0
      | 1, _ => exact e1
section
variable {Sh : Nat → Prop} {Stop : (Nat → Prop) → Goroutine → World → Prop} {M : Nat → Prop} {w : World}
theorem strL_flat (S : List Nat) : ∀ v ∈ (strL S).toArray, flatC v = true := fun v hv => by
  simp only [List.mem_toArray, strL, List.mem_map] at hv
  obtain ⟨n, _, rfl⟩ := hv
  rfl
theorem newStream_co (b1 o1 c1 b2 o2 c2 : Nat) (xs ys : List Int) (c : Frame) (cs : List Frame) (hx0 : xs.length = 32) (hy0 : ys.length = 12) (hc1 : 32 ≤ c1) (hc2 : 12 ≤ c2) (hbx : ∀ x ∈ xs, 0 ≤ x ∧ x < 256) (hby : ∀ x ∈ ys, 0 ≤ x ∧ x < 256) (hx : ∀ j u, xs[j]? = some u → w.cell? ⟨b1, o1 + j, none⟩ = some (.int .u8 u)) (hy : ∀ j u, ys[j]? = some u → w.cell? ⟨b2, o2 + j, none⟩ = some (.int .u8 u))
    (hM1 : M b1) (hM2 : M b2) (hM : ∀ b, M b → b < w.heap.size) (hSw : ∀ b, Sh b → b < w.heap.size)
    (next : ∀ w1 M', Keeps M w w1 → (∀ b, M b → M' b) → (∀ b, M' b → M b ∨ w.heap.size ≤ b) → (∀ b, M' b → b < w1.heap.size) → Co Tryz.prog true Sh Stop M' (G (c.finish (.tuple #[.agg (strL (firstN xs 0 ys)).toArray, .bool true])) cs) w1) :
    Co Tryz.prog true Sh Stop M (G (Frame.enter Tryz.prog 107 #[.slice (some ⟨b1, o1, none⟩) 32 c1, .slice (some ⟨b2, o2, none⟩) 12 c2] .normal) (c :: cs)) w := by
  refine co_call_on (Gl := glX) (Al := alN) (Sh := ShX) (ρ := renP alN b1 o1 b2 o2) (R := fun b => M b ∧ b ≠ b1 ∧ b ≠ b2) (args := #[.slice (some ⟨Tryz.prog.globals.size, o1, none⟩) 32 c1, .slice (some ⟨Tryz.prog.globals.size + 1, o2, none⟩) 12 c2]) (wg := ghostX w o1 xs o2 ys)
    (Post := fun v _ => v = .tuple #[.agg (strL (firstN xs 0 ys)).toArray, .bool true])
    tameN (fun b b' hb _ => hb.imp And.left And.left) hSw (by rfl) (fun τ => ?_) (sit_P alN (by omega) (by omega) hx hy) ?_ (fun b => ?_) (fun b hb => ⟨hM b hb.1, fun ⟨c, hc⟩ => ?_⟩) fun ρ1 v v' w1g w1 M' hv hP hrel hle hnew hM' hkR hst => ?_
  · have h1 : (World.ret (ghostX w o1 xs o2 ys) τ).heap[Tryz.prog.globals.size]? = _ := ghostX_one w o1 xs o2 ys
    have h2 : (World.ret (ghostX w o1 xs o2 ys) τ).heap[Tryz.prog.globals.size + 1]? = _ := ghostX_two w o1 xs o2 ys
    exact (newStream_yes _ _ c1 c2 xs ys (World.ret (ghostX w o1 xs o2 ys) τ) hc1 hc2 hx0 hy0 (fun _ => ⟨_, _, rfl, fun i hi => part_cell h1 i (by omega)⟩) (fun _ => ⟨_, _, rfl, fun i hi => part_cell h2 i (by omega)⟩) hbx hby).mono fun e w' ⟨e1, _⟩ => ⟨_, e1, rfl⟩
  · refine ⟨rfl, fun j x x' h1 h2 => ?_⟩
    match j with
    | 0 =>
      cases h1
      cases h2
      exact .slice _ _ ⟨.inl ⟨rfl, rfl⟩, rfl, rfl, fun h => absurd h (Nat.lt_irrefl _), by rw [renP_lo1]; exact Nat.le_refl _⟩
    | 1 =>
      cases h1
      cases h2
      exact .slice _ _ ⟨.inr ⟨rfl, rfl⟩, rfl, rfl, fun h => absurd h (Nat.not_lt.2 (Nat.le_succ _)), by rw [renP_lo2]; exact Nat.le_refl _⟩
    | j + 2 => cases h1
  · constructor
    · intro hb
      by_cases e1 : b = b1
      · exact .inl ⟨_, .inl ⟨rfl, e1⟩⟩
      · by_cases e2 : b = b2
        · exact .inl ⟨_, .inr ⟨rfl, e2⟩⟩
        · exact .inr ⟨hb, e1, e2⟩
    · rintro (⟨_, ⟨_, rfl⟩ | ⟨_, rfl⟩⟩ | hb)
      · exact hM1
      · exact hM2
      · exact hb.1
  · rcases hc with ⟨_, h⟩ | ⟨_, h⟩
    · exact hb.2.1 h
    · exact hb.2.2 h
  · subst hP
    rw [pair_same hv (strL_flat _)]
    have hb1 : w1.heap[b1]? = w.heap[b1]? := hst _ _ (.inl rfl) (.inl ⟨rfl, rfl⟩)
    have hb2 : w1.heap[b2]? = w.heap[b2]? := hst _ _ (.inr rfl) (.inr ⟨rfl, rfl⟩)
    refine next w1 M' ⟨fun b hb => ?_, hkR.size, hkR.os, hkR.output, hkR.tape⟩ (fun b hb => (hM' b).2 ?_) (fun b hb => ?_) fun b hb => ?_
    · by_cases e1 : b = b1
      · exact e1 ▸ hb1
      · by_cases e2 : b = b2
        · exact e2 ▸ hb2
        · exact hkR.heap b ⟨hb, e1, e2⟩
    · by_cases e1 : b = b1
      · exact .inl ⟨_, hle.app (.inl ⟨rfl, e1⟩)⟩
      · by_cases e2 : b = b2
        · exact .inl ⟨_, hle.app (.inr ⟨rfl, e2⟩)⟩
        · exact .inr ⟨hb, e1, e2⟩
    · rcases (hM' b).1 hb with ⟨d, hd⟩ | hb
      · rcases hnew d b hd with (⟨_, rfl⟩ | ⟨_, rfl⟩) | x
        · exact .inl hM1
        · exact .inl hM2
        · exact .inr x.2
      · exact .inl hb.1
    · rcases (hM' b).1 hb with ⟨d, hd⟩ | hb
      · exact (hrel.lt hd).2
      · exact Nat.lt_of_lt_of_le (hM b hb.1) hkR.size
end
theorem wrapI {x : Int} (h0 : -9223372036854775808 ≤ x) (h1 : x ≤ 9223372036854775807) : IntKind.i64.wrap x = x := by
  simp [IntKind.wrap, IntKind.bits, IntKind.signed]
  omega
structure BytesT (w : World) (p : Option Addr) (n c : Nat) (xs : List Int) : Prop where
  len : xs.length = n
  cap : n ≤ c
  low : ∀ x ∈ xs, 0 ≤ x ∧ x < 256
  lies : 0 < n → ∃ b o, p = some ⟨b, o, none⟩ ∧ ∀ j u, xs[j]? = some u → w.cell? ⟨b, o + j, none⟩ = some (.int .u8 u)
theorem BytesT.at {w : World} {p : Option Addr} {n c : Nat} {xs : List Int} (h : BytesT w p n c xs) (h0 : 0 < n) : ∃ b o, p = some ⟨b, o, none⟩ ∧ b < w.heap.size ∧ ∀ j u, xs[j]? = some u → w.cell? ⟨b, o + j, none⟩ = some (.int .u8 u) := by
  obtain ⟨b, o, e, hc⟩ := h.lies h0
  have := h.len
  exact ⟨b, o, e, World.block_lt_of_cell? w ⟨b, o + 0, none⟩ (hc 0 xs[0] (List.getElem?_eq_getElem (by omega))), hc⟩
def GoodT (kn nn bn : Nat) (ct : Int) : Prop := kn = 32 ∧ nn = 12 ∧ bn ≤ 4000 ∧ 0 ≤ ct ∧ ct + (((bn + 63) / 64 : Nat) : Int) ≤ 4294967296
def strT (KS : List Int) (ct : Int) (NS BS : List Int) : List Int := outR BS (fun i j => (blkB KS (ct + (i : Int)) NS).getD j 0) ((BS.length + 63) / 64)
theorem stream_bes (kp np bp : Option Addr) (kn kc nn nc bn bc : Nat) (ct : Int) (KS NS BS : List Int) (c : Frame) (cs : List Frame) (C : Array Value) (e : TypeId) (w : World) (hK : BytesT w kp kn kc KS) (hN : BytesT w np nn nc NS) (hB : BytesT w bp bn bc BS) (hct : ct ≤ 9223372036854775807)
    (hT : TableIn C e w) (hC : ∀ v ∈ C, flatC v = true) (hCp : ∀ (j : Nat) v, placesC[j]? = some v → C[j]? = some v) :
    Bes Tryz.prog (fun g1 w1 => ∃ v', g1 = G (c.finish v') cs ∧ Keeps (fun b => b < w.heap.size) w w1 ∧ ((¬ GoodT kn nn bn ct ∧ v' = .slice none 0 0) ∨ (GoodT kn nn bn ct ∧ ∃ τ, v' = .slice (some ⟨τ, 0, none⟩) bn bn ∧ w.heap.size ≤ τ ∧ w1.heap[τ]? = some (.cells ((strT KS ct NS BS).map (Value.int .u8)).toArray 5 (0, 0)))))
      (G (Frame.enter Tryz.prog 72 #[.slice kp kn kc, .int .i64 ct, .slice np nn nc, .slice bp bn bc] .normal) (c :: cs)) w := by
  have htab : 1 < w.heap.size := by
    obtain ⟨lo, hi, h, _⟩ := hT
    exact (Array.getElem?_eq_some_iff.1 h).1
  have hSw : ∀ b, ShS b → b < w.heap.size := fun b hb => by rw [(shS_iff b).1 hb]; exact htab
  obtain ⟨a1, h1⟩ : ∃ a1, IntKind.i64.wrap ((bn : Int) + 64) = a1 := ⟨_, rfl⟩
  obtain ⟨a2, h2⟩ : ∃ a2, IntKind.i64.wrap (a1 - 1) = a2 := ⟨_, rfl⟩
  obtain ⟨a3, h3⟩ : ∃ a3, IntKind.i64.wrap (a2.tdiv 64) = a3 := ⟨_, rfl⟩
  obtain ⟨a4, h4⟩ : ∃ a4, IntKind.i64.wrap (4294967296 - ct) = a4 := ⟨_, rfl⟩
  have hm : bn ≤ 4000 → a3 = (((bn + 63) / 64 : Nat) : Int) := fun h => by
    rw [wrapI (by omega) (by omega)] at h1
    subst h1
    rw [wrapI (by omega) (by omega)] at h2
    subst h2
    have : ((bn : Int) + 64 - 1).tdiv 64 = (((bn + 63) / 64 : Nat) : Int) := by
      rw [Int.tdiv_eq_ediv_of_nonneg (by omega)]
      omega
    rw [this, wrapI (by omega) (by omega)] at h3
    exact h3.symm
  have h4' : 0 ≤ ct → a4 = 4294967296 - ct := fun h => by rw [← h4, wrapI (by omega) (by omega)]
  have key : Co Tryz.prog true ShS (fun _ g w1 => Keeps (fun b => b < w.heap.size) w w1 ∧ ((¬ GoodT kn nn bn ct ∧ g = G (c.finish (.slice none 0 0)) cs) ∨ (GoodT kn nn bn ct ∧ ∃ β, g = G (goodR (.slice kp kn kc) (.slice np nn nc) ct bp bn bc a1 a2 a3 a4 (strL (firstN KS 0 NS)).toArray β) (c :: cs) ∧ w.heap.size ≤ β ∧ w1.heap[β]? = some (.cells (strL (firstN KS 0 NS)).toArray 131 (0, 0)))))
      (fun b => b < w.heap.size) (G (Frame.enter Tryz.prog 72 #[.slice kp kn kc, .int .i64 ct, .slice np nn nc, .slice bp bn bc] .normal) (c :: cs)) w := by
    refine first_R _ _ ct bp bn bc a1 a2 a3 h1 h2 h3 (c :: cs) ?_
    have refuse : ∀ w1 (M' : Nat → Prop), Keeps (fun b => b < w.heap.size) w w1 → (∀ b, b < w.heap.size → M' b) → (∀ b, M' b → b < w1.heap.size) → ¬ (kn = 32 ∧ nn = 12) → Co Tryz.prog true ShS (fun _ g w1 => Keeps (fun b => b < w.heap.size) w w1 ∧ ((¬ GoodT kn nn bn ct ∧ g = G (c.finish (.slice none 0 0)) cs) ∨ (GoodT kn nn bn ct ∧ ∃ β, g = G (goodR (.slice kp kn kc) (.slice np nn nc) ct bp bn bc a1 a2 a3 a4 (strL (firstN KS 0 NS)).toArray β) (c :: cs) ∧ w.heap.size ≤ β ∧ w1.heap[β]? = some (.cells (strL (firstN KS 0 NS)).toArray 131 (0, 0))))) M' (G ((call1R (.slice kp kn kc) (.slice np nn nc) ct bp bn bc a1 a2 a3 undef [2, 3, 4, 5, 6, 7, 8]).finish (.tuple #[.agg (Array.replicate 16 (.int .u32 0)), .bool false])) (c :: cs)) w1 := fun w1 M' hk hM hl hno => by
      rw [finish_R]
      have hz := hk.size
      refine second_R _ _ ct bp bn bc a1 a2 a3 _ false (fun v hv => by rw [Array.eq_of_mem_replicate hv]; rfl) (by simp) (by rw [Array.all_eq_true']; intro v hv; rw [Array.eq_of_mem_replicate hv]; rfl) (c :: cs) hl (fun b hb => by have := hSw b hb; omega) fun β w2 hk2 hb1 hb2 hb3 => ?_
      refine no1_R _ _ ct bp bn bc a1 a2 a3 _ β (c :: cs) fun tmps todo h8 => leave_R tmps todo _ c cs h8 (.stop fun w3 hk3 => ⟨?_, .inl ⟨fun h => hno ⟨h.1, h.2.1⟩, rfl⟩⟩)
      exact (hk.trans (hk2.less fun b hb => hM b hb)).trans (hk3.less fun b hb => .inl (hM b hb))
    by_cases hkn : kn = 32
    · subst hkn
      by_cases hnn : nn = 12
      · subst hnn
        obtain ⟨b1, o1, rfl, hb1, hc1⟩ := hK.at (by omega)
        obtain ⟨b2, o2, rfl, hb2, hc2⟩ := hN.at (by omega)
        refine newStream_co b1 o1 kc b2 o2 nc KS NS _ (c :: cs) hK.len hN.len hK.cap hN.cap hK.low hN.low hc1 hc2 hb1 hb2 (fun b hb => hb) hSw fun w1 M' hk hM _ hl => ?_
        rw [finish_R]
        have hz := hk.size
        refine second_R _ _ ct bp bn bc a1 a2 a3 _ true (strL_flat _) (by simp [strL_length, firstN_length]) (by rw [Array.all_eq_true']; intro v hv; exact strL_one _ v (by simpa using hv)) (c :: cs) hl (fun b hb => by have := hSw b hb; omega) fun β w2 hk2 hβ1 hβ2 hβ3 => ?_
        have hkeep : ∀ w3, Keeps (fun b => M' b ∨ b = β) w2 w3 → Keeps (fun b => b < w.heap.size) w w3 := fun w3 hk3 => (hk.trans (hk2.less fun b hb => hM b hb)).trans (hk3.less fun b hb => .inl (hM b hb))
        have no : ∀ (_ : ¬ GoodT 32 12 bn ct) tmps todo, tmps.getD 8 undef = .slice none 0 0 → Co Tryz.prog true ShS _ (fun b => M' b ∨ b = β) (G { bR.at ⟨tmps, []⟩ todo with mode := .returning } (c :: cs)) w2 := fun hno tmps todo h8 => leave_R (Stop := fun _ g w1 => Keeps (fun b => b < w.heap.size) w w1 ∧ ((¬ GoodT 32 12 bn ct ∧ g = G (c.finish (.slice none 0 0)) cs) ∨ (GoodT 32 12 bn ct ∧ ∃ β, g = G (goodR (.slice (some ⟨b1, o1, none⟩) 32 kc) (.slice (some ⟨b2, o2, none⟩) 12 nc) ct bp bn bc a1 a2 a3 a4 (strL (firstN KS 0 NS)).toArray β) (c :: cs) ∧ w.heap.size ≤ β ∧ w1.heap[β]? = some (.cells (strL (firstN KS 0 NS)).toArray 131 (0, 0))))) tmps todo _ c cs h8 (.stop fun w3 hk3 => ⟨hkeep w3 hk3, .inl ⟨hno, rfl⟩⟩)
        by_cases q1 : (4000 : Int) < bn
        · exact no2_R _ _ ct bp bn bc a1 a2 a3 _ β q1 (c :: cs) (no fun h => by have := h.2.2.1; omega)
        · by_cases q2 : ct < 0
          · exact no3_R _ _ ct bp bn bc a1 a2 a3 _ β q1 q2 (c :: cs) (no fun h => by have := h.2.2.2.1; omega)
          · have e3 := hm (by omega)
            have e4 := h4' (by omega)
            by_cases q3 : a4 < a3
            · exact no4_R _ _ ct bp bn bc a1 a2 a3 a4 _ β q1 q2 h4 q3 (c :: cs) (no fun h => by have := h.2.2.2.2; omega)
            · refine yes_R _ _ ct bp bn bc a1 a2 a3 a4 _ β q1 q2 h4 q3 (c :: cs) (.stop fun w3 hk3 => ⟨hkeep w3 hk3, .inr ⟨⟨rfl, rfl, by omega, by omega, by omega⟩, β, rfl, by omega, (hk3.heap β (.inr rfl)).trans hβ3⟩⟩)
      · exact ns2_R kp np kc nn nc _ (c :: cs) (by omega) (fun b hb => hb) hSw fun w1 M' hk hM _ hl => refuse w1 M' hk hM hl fun h => hnn h.2
    · exact ns1_R kp kn kc _ _ (c :: cs) (by omega) (fun b hb => hb) hSw fun w1 M' hk hM _ hl => refuse w1 M' hk hM hl fun h => hkn h.1
  refine (Bes.of_co key (fun b hb => hb) fun _ g w1 h _ => h).bind fun g w1 ⟨hk, h⟩ => ?_
  rcases h with ⟨hno, rfl⟩ | ⟨hg, β, rfl, hβ1, hβ2⟩
  · exact .now ⟨_, rfl, hk, .inl ⟨hno, rfl⟩⟩
  · obtain ⟨rfl, rfl, g3, g4, g5⟩ := id hg
    have hz := hk.size
    have e3 := hm g3
    subst e3
    obtain ⟨b1, o1, hbp, hb1, hcell⟩ : ∃ b1 o1, (0 < bn → bp = some ⟨b1, o1, none⟩) ∧ b1 < w.heap.size ∧ ∀ j u, BS[j]? = some u → w.cell? ⟨b1, o1 + j, none⟩ = some (.int .u8 u) := by
      rcases Nat.eq_zero_or_pos bn with h0 | h0
      · refine ⟨_, 0, fun h => by omega, htab, fun j u hu => ?_⟩
        have := (List.getElem?_eq_some_iff.1 hu).1
        have := hB.len
        omega
      · obtain ⟨b1, o1, x, y, z⟩ := hB.at h0
        exact ⟨b1, o1, fun _ => x, y, z⟩
    have hlen := hB.len
    refine (tail_bes _ _ ct bp bn bc a1 a2 ((bn + 63) / 64) a4 _ β c cs b1 o1 BS (fun i j => (blkB KS (ct + (i : Int)) NS).getD j 0) C e w1 (by omega) (strL_flat _) (by simp [strL_length, firstN_length]) hβ2 (fun h => by have := hSw _ h; omega) ?_ hC (block_is KS NS ct _ C e hK.low hN.low hCp g4 g5) (fun i hi => wrapI (by omega) (by omega)) (fun i hi => wrapI (by omega) (by omega)) hbp (by omega) hlen (by omega) hB.cap (fun j u hu => ?_) (fun i hi => by omega) (by omega)).bind fun g w2 ⟨τ, q1, q2, q3, q4⟩ => .now ⟨_, q1, ?_, .inr ⟨hg, τ, rfl, by omega, ?_⟩⟩
    · obtain ⟨lo, hi, h, hl⟩ := hT
      exact ⟨lo, hi, (hk.heap _ htab).trans h, hl⟩
    · exact (cell_keeps hk (a := ⟨b1, o1 + j, none⟩) hb1).trans (hcell j u hu)
    · exact hk.trans (q3.less fun b hb => Nat.lt_of_lt_of_le hb hz)
    · rw [q4, strT, hlen]
end Go.Proofs.YtnpffnhiefgglaaGreatDoor
namespace Go.Proofs.YtnpffnhiefgglaaGreatDoor
open Go.RowKit
set_option maxRecDepth 100000
def outS (ks : List Int) (count : Int) (ns bs : List Int) : Nat → List Int
  | 0 => []
  | i + 1 => outS ks count ns bs i ++ xorL (blkB ks (count + (i : Int)) ns) (bs.drop (64 * i))
theorem outS_length (ks : List Int) (count : Int) (ns bs : List Int) (i : Nat) : (outS ks count ns bs i).length = min (64 * i) bs.length := by
  induction i with
  | zero => simp [outS]
  | succ i ih =>
    rw [outS, List.length_append, ih, xorL_length, List.length_drop, blkB_length]
    omega
def strOk (n m k : Nat) (count : Int) : Prop := k ≤ 4000 ∧ ∀ i : Nat, 64 * i < k → blkOk n m (count + (i : Int))
open Classical in
noncomputable def strS (ks : List Int) (count : Int) (ns bs : List Int) : List Int := if strOk ks.length ns.length bs.length count then outS ks count ns bs ((bs.length + 63) / 64) else []
theorem slice_on (b j m cc l : Nat) (h : l < m) (hc : m ≤ cc) (W : World) : (Instr.slice 22 (.slice (some ⟨b, j, none⟩) m cc) (some (.int .i64 (l : Int))) none none).run Tryz.prog W = .ok (.slice (some ⟨b, j + l, none⟩) (m - l) (cc - l)) W := by
  have ht' : Tryz.prog.underlying 22 = some (.slice (Tryz.prog.elem 22)) := by simp [Program.elem, Tryz.underlying22]
  have he : Tryz.prog.elem 22 = 5 := by simp [Program.elem, Tryz.underlying22]
  obtain ⟨i0, hi, hz0, hz1, hz2⟩ := info_parts infoByte
  rw [run_slice_l W 22 _ _ _ ht' .i64 l (by omega) (by omega), he]
  simp [sizeOf, typeInfo, hi, hz1, sliced, Addr.add, show cc ≠ l by omega]
set_option maxHeartbeats 1000000 in
theorem specStr_small (p q r : Option Addr) (n m k c d f : Nat) (count : Int) (ks ns bs : List Int) (w : World) (hk : k ≤ 4000) (hf : k ≤ f) (hx : ks.length = n) (hy : ns.length = m) (hz : bs.length = k) (h : BytesIn w p n ks) (h' : BytesIn w q m ns) (h'' : BytesIn w r k bs) (hb1 : ∀ x ∈ ks, 0 ≤ x ∧ x < 256) (hb2 : ∀ x ∈ ns, 0 ≤ x ∧ x < 256) :
    Calls Tryz.prog 76 #[.slice p n c, .int .i64 count, .slice q m d, .slice r k f] w fun e w' => ∃ p' L c', e = .returned (.slice p' L c') ∧ Own 5 w' w.heap.size w'.heap.size (.slice p' L c') L (strS ks count ns bs) ∧ Below w.heap.size w w' := by
  obtain ⟨i0, hi, hz0, hz1, hz2⟩ := info_parts infoByte
  have d1 : ¬ (4000 : Int) < (k : Int) := by omega
  have hown0 : (w.alloc (.cells #[] 5)).ownsRow w.heap.size 5 1 (.slice (some ⟨w.heap.size, 0, none⟩) 0 0) 0 ((outS ks count ns bs 0).map (Value.int .u8)) := World.ownsRow_made w #[] 0 (Nat.le_refl _) (by unfold maxLen; omega) rfl
  have hb0 : Below w.heap.size w (w.alloc (.cells #[] 5)) := (Below.refl _ _).alloc (Nat.le_refl _) _
  go_enter Tryz.func76, Tryz.ntmps76
  go_wp2_with (fail)
  generalize w.alloc (.cells #[] 5) = w2 at hown0 hb0 ⊢
  go_loopw [9, 10, 1, 11] (fun v at_ cn _ wr => ∃ (i a L : Nat) (cc : Int), Hid (a = 64 * i) ∧ Hid (cc = count + (i : Int)) ∧ a < k + 64 ∧ at_ = .int .i64 a ∧ cn = .int .i64 cc ∧ wr.ownsRow w.heap.size 5 1 v L ((outS ks count ns bs i).map (Value.int .u8)) ∧ Hid (∀ i' : Nat, i' < i → blkOk n m (count + (i' : Int))) ∧ Below w.heap.size w wr)
    (fun _ at_ _ _ _ => match at_ with | .int _ z => k + 64 - z.toNat | _ => 0)
  case atStart => exact ⟨0, 0, 0, count, rfl, by rw [Hid]; simp, by omega, rfl, rfl, hown0, fun i' h => absurd h (Nat.not_lt_zero _), hb0⟩
  case round =>
    clear hown0 hb0
    obtain ⟨i, a, L, cc, ha, hcc, hak, rfl, rfl, hown, hoks, hbl⟩ := hrel
    have hszr := hbl.size
    obtain ⟨pv, cv, hv⟩ := owns_form hown
    subst hv
    by_cases hlt : a < k
    · obtain ⟨b2, o2, rfl, hcell⟩ := h'' (by omega)
      by_cases hok : blkOk n m cc
      · have CB := specBlk_any p q n m c d cc ks ns wr hx hy (in_below h hbl) (in_below h' hbl) hb1 hb2
        rw [blkN, if_pos hok, blkL, hx, hy, if_pos hok] at CB
        have hsl := slice_on b2 o2 k f a hlt hf
        have hc0 := hok.2.2.1
        have hc1 := hok.2.2.2
        have hlB := blkB_length ks cc ns
        have HX : Hid (∀ W, Below w.heap.size w W → BytesIn W (some ⟨b2, o2 + a, none⟩) (k - a) (bs.drop a)) := fun W hW _ => ⟨b2, o2 + a, rfl, fun j hj => by
          have := hcell (a + j) (by omega)
          rw [Nat.add_assoc, hW.cell (p := ⟨b2, o2 + (a + j), none⟩) (World.block_lt_of_cell? w ⟨b2, o2 + (a + j), none⟩ this), this]
          simp [List.getD]⟩
        have HO : Hid (outS ks count ns bs i ++ xorL (blkB ks cc ns) (bs.drop a) = outS ks count ns bs (i + 1)) := by rw [Hid, outS, ha.out, hcc.out]
        have hld : (bs.drop a).length = k - a := by rw [List.length_drop, hz]
        generalize blkB ks cc ns = B at CB hlB HO
        generalize bs.drop a = D at HX HO hld
        clear hcell
        go_wp2_with (fail)
        refine CB.mono ?_
        rintro e w6 ⟨p6, c6, rfl, r6, b6⟩
        clear CB
        go_wp2_with (fail)
        have bel6 : Below w.heap.size w w6 := below_on hbl b6
        refine (specXor_own p6 _ 64 (k - a) c6 (f - a) B D w6 (by omega) (by omega) hlB hld r6.bytes (HX.out w6 bel6)).mono ?_
        rintro e w7 ⟨p7, c7, rfl, r7, b7⟩
        have bel7 := below_on bel6 b7
        have hown7 := owns_below (owns_below hown b6) b7
        have hin7 := r7.bytes
        have l7 : (xorL B D).length = min 64 (k - a) := by rw [xorL_length, hlB, hld]
        have hs7 := bel7.size
        have hL : L ≤ 1048576 := by
          have h1 := owns_len hown7
          rw [outS_length, hz] at h1
          omega
        have hmin : 0 < min 64 (k - a) := by omega
        have hmax : min 64 (k - a) ≤ 64 := by omega
        have HA : Hid (a + 64 = 64 * (i + 1)) := by rw [Hid, ha.out]; omega
        have HC : Hid (cc + 1 = count + ((i + 1 : Nat) : Int)) := by rw [Hid, hcc.out]; omega
        have HK : Hid (∀ i' : Nat, i' < i + 1 → blkOk n m (count + (i' : Int))) := fun i' hi' => by
          rcases Nat.lt_or_ge i' i with h1 | h1
          · exact hoks.out i' h1
          · obtain rfl : i' = i := by omega
            rw [← hcc.out]
            exact hok
        clear hown r6 r7 b6 b7 HX hoks ha hcc hld hlB hsl bel6 hbl
        generalize min 64 (k - a) = mm at hin7 l7 hmin hmax ⊢
        go_wp2_with (at_builtin; refine list_spread hi hz0 hz1 hz2 (.tmp 31) (.tmp 36) 22 Tryz.underlying22 hown7 hin7 l7 hmin (by omega) (by omega) hs7 (by rfl) (by rfl) (by rfl) (by rfl) ?_; intro g8 cap8 w8 ho8 hg8 hb8; rw [HO.out] at ho8)
        go_roundw
        case rel => exact ⟨i + 1, a + 64, L + mm, cc + 1, HA, HC, by omega, by go_num, by go_num, ho8, HK, bel7.trans hb8⟩
        case measure => simp only; omega
      · have CB := specBlk_any p q n m c d cc ks ns wr hx hy (in_below h hbl) (in_below h' hbl) hb1 hb2
        rw [blkN, if_neg hok, blkL, hx, hy, if_neg hok] at CB
        have hno : strS ks count ns bs = [] := if_neg fun hS => hok (by
          have := hS.2 i (by rw [hz, ← ha.out]; exact hlt)
          rw [hx, hy, ← hcc.out] at this
          exact this)
        clear hcell
        go_wp2_with (fail)
        refine CB.mono ?_
        rintro e w6 ⟨p6, c6, rfl, r6, b6⟩
        have bel6 : Below w.heap.size w w6 := below_on hbl b6
        have hs6 := bel6.size
        have ho6 : (w6.alloc (.cells #[] 5)).ownsRow w.heap.size 5 1 (.slice (some ⟨w6.heap.size, 0, none⟩) 0 0) 0 (([] : List Int).map (Value.int .u8)) := World.ownsRow_made w6 #[] 0 hs6 (by unfold maxLen; omega) rfl
        clear CB
        go_wp2_with (fail)
        go_ret
        rw [hno]
        exact ⟨_, _, _, rfl, .of ho6, bel6.alloc hs6 _⟩
    · have hyes : strS ks count ns bs = outS ks count ns bs i := by
        have e1 : (bs.length + 63) / 64 = i := by
          have := ha.out
          rw [hz]
          omega
        have hS : strOk ks.length ns.length bs.length count := ⟨by rw [hz]; exact hk, fun i' hi' => by rw [hx, hy]; exact hoks.out i' (by have := ha.out; rw [hz] at hi'; omega)⟩
        rw [strS, if_pos hS, e1]
      have hnl : ¬ (a : Int) < (k : Int) := by omega
      go_wp2_with (fail)
      go_ret
      exact ⟨_, _, _, rfl, .of hown, hbl⟩
theorem specStr_any (p q r : Option Addr) (n m k c d f : Nat) (count : Int) (ks ns bs : List Int) (w : World) (hf : k ≤ f) (hx : ks.length = n) (hy : ns.length = m) (hz : bs.length = k) (h : BytesIn w p n ks) (h' : BytesIn w q m ns) (h'' : BytesIn w r k bs) (hb1 : ∀ x ∈ ks, 0 ≤ x ∧ x < 256) (hb2 : ∀ x ∈ ns, 0 ≤ x ∧ x < 256) :
    Calls Tryz.prog 76 #[.slice p n c, .int .i64 count, .slice q m d, .slice r k f] w fun e w' => ∃ p' L c', e = .returned (.slice p' L c') ∧ Own 5 w' w.heap.size w'.heap.size (.slice p' L c') L (strS ks count ns bs) ∧ Below w.heap.size w w' := by
  by_cases hk : k ≤ 4000
  · exact specStr_small p q r n m k c d f count ks ns bs w hk hf hx hy hz h h' h'' hb1 hb2
  · have hno : Hid (strS ks count ns bs = []) := if_neg fun hS => hk (by have := hS.1; omega)
    have d1 : (4000 : Int) < (k : Int) := by omega
    have hown0 : (w.alloc (.cells #[] 5)).ownsRow w.heap.size 5 1 (.slice (some ⟨w.heap.size, 0, none⟩) 0 0) 0 (([] : List Int).map (Value.int .u8)) := World.ownsRow_made w #[] 0 (Nat.le_refl _) (by unfold maxLen; omega) rfl
    have hb0 : Below w.heap.size w (w.alloc (.cells #[] 5)) := (Below.refl _ _).alloc (Nat.le_refl _) _
    go_enter Tryz.func76, Tryz.ntmps76
    go_wp2_with (fail)
    go_ret
    rw [hno.out]
    exact ⟨_, _, _, rfl, .of hown0, hb0⟩
end Go.Proofs.YtnpffnhiefgglaaGreatDoor
namespace Go.Proofs.YtnpffnhiefgglaaGreatDoor
open Go Go.Conc Go.RowKit
set_option maxRecDepth 100000
theorem bits_swap (u v : Int) : bits BinOp.xor IntKind.u8 u v = bits BinOp.xor IntKind.u8 v u := by
  simp only [bits]
  rw [BitVec.xor_comm]
theorem xorL_swap : ∀ (xs ys : List Int), xorL xs ys = xorL ys xs
  | [], ys => by simp [xorL]
  | x :: xs, [] => by simp [xorL]
  | x :: xs, y :: ys => by
    have ih := xorL_swap xs ys
    simp only [xorL, List.zipWith_cons_cons] at ih ⊢
    rw [ih, bits_swap]
theorem sixtyL_self {B : List Int} (h : B.length = 64) : sixtyL (fun j => B.getD j 0) = B := by
  apply List.ext_getElem?
  intro j
  rcases Nat.lt_or_ge j 64 with hj | hj
  · simp only [sixtyL, List.getElem?_map, List.getElem?_range hj, Option.map_some, List.getD_eq_getElem?_getD, List.getElem?_eq_getElem (show j < B.length by omega), Option.getD_some]
  · rw [List.getElem?_eq_none (by rw [sixtyL_length]; exact hj), List.getElem?_eq_none (by omega)]
theorem out_same (KS : List Int) (ct : Int) (NS BS : List Int) (i : Nat) : outR BS (fun i j => (blkB KS (ct + (i : Int)) NS).getD j 0) i = outS KS ct NS BS i := by
  induction i with
  | zero => rfl
  | succ i ih => rw [outR, outS, ih, sixtyL_self (blkB_length _ _ _), xorL_swap]
theorem good_ok {KS NS BS : List Int} {ct : Int} (h : GoodT KS.length NS.length BS.length ct) : strS KS ct NS BS = strT KS ct NS BS := by
  obtain ⟨h1, h2, h3, h4, h5⟩ := h
  have hS : strOk KS.length NS.length BS.length ct := ⟨h3, fun i hi => ⟨h1, h2, by omega, by omega⟩⟩
  rw [strS, if_pos hS, strT, out_same]
end Go.Proofs.YtnpffnhiefgglaaGreatDoor
namespace Go.Proofs.YtnpffnhiefgglaaGreatDoor
set_option maxRecDepth 100000
def valN (f : Nat → Nat) : Nat → Nat
  | 0 => 0
  | n + 1 => valN f n + f n * 256 ^ n
def gN (L : List Nat) (i : Nat) : Nat := L.getD i 0
def tagP : Nat := 1361129467683753853853498429727072845819
theorem valN_congr {f g : Nat → Nat} : ∀ {n : Nat}, (∀ i, i < n → f i = g i) → valN f n = valN g n
  | 0, _ => rfl
  | n + 1, h => by rw [valN, valN, valN_congr (fun i hi => h i (by omega)), h n (by omega)]
theorem valN_lt {f : Nat → Nat} : ∀ {n : Nat}, (∀ i, i < n → f i < 256) → valN f n < 256 ^ n
  | 0, _ => by simp [valN]
  | n + 1, h => by
    have h1 := valN_lt (n := n) (fun i hi => h i (by omega))
    have h2 : f n * 256 ^ n ≤ 255 * 256 ^ n := Nat.mul_le_mul_right _ (by have := h n (by omega); omega)
    rw [valN, Nat.pow_succ]
    omega
theorem valN_add (f g : Nat → Nat) : ∀ n, valN (fun i => f i + g i) n = valN f n + valN g n
  | 0 => rfl
  | n + 1 => by simp only [valN]; rw [valN_add f g n, Nat.add_mul]; omega
theorem valN_mul (f : Nat → Nat) (k : Nat) : ∀ n, valN (fun i => k * f i) n = k * valN f n
  | 0 => rfl
  | n + 1 => by simp only [valN]; rw [valN_mul f k n, Nat.mul_add, Nat.mul_assoc]
theorem valN_split (f : Nat → Nat) (a : Nat) : ∀ b, valN f (a + b) = valN f a + 256 ^ a * valN (fun i => f (a + i)) b
  | 0 => by simp [valN]
  | b + 1 => by
    rw [← Nat.add_assoc, valN, valN_split f a b, valN, Nat.mul_add, Nat.pow_add]
    have : f (a + b) * (256 ^ a * 256 ^ b) = 256 ^ a * (f (a + b) * 256 ^ b) := by rw [← Nat.mul_assoc, Nat.mul_comm (f (a + b)), Nat.mul_assoc]
    omega
/-! ### what is carried -/
def carN (f : Nat → Nat) (u : Nat) : Nat → Nat
  | 0 => u
  | k + 1 => (carN f u k + f k) / 256
def digN (f : Nat → Nat) (u : Nat) (k : Nat) : Nat := (carN f u k + f k) % 256
theorem digN_lt (f : Nat → Nat) (u k : Nat) : digN f u k < 256 := Nat.mod_lt _ (by decide)
theorem val_carry (f : Nat → Nat) (u : Nat) : ∀ n, valN (digN f u) n + 256 ^ n * carN f u n = u + valN f n
  | 0 => by simp [valN, carN]
  | n + 1 => by
    have ih := val_carry f u n
    have hd : digN f u n + 256 * carN f u (n + 1) = carN f u n + f n := by
      simp only [digN, carN]
      omega
    have e1 : 256 ^ (n + 1) * carN f u (n + 1) = 256 ^ n * (256 * carN f u (n + 1)) := by rw [Nat.pow_succ, Nat.mul_assoc]
    have e2 : digN f u n * 256 ^ n = 256 ^ n * digN f u n := Nat.mul_comm _ _
    have e3 : 256 ^ n * digN f u n + 256 ^ n * (256 * carN f u (n + 1)) = 256 ^ n * (carN f u n + f n) := by rw [← Nat.mul_add, hd]
    rw [Nat.mul_add] at e3
    have e4 : f n * 256 ^ n = 256 ^ n * f n := Nat.mul_comm _ _
    simp only [valN]
    omega
/-! ### alike by p -/
def alike (a b : Nat) : Prop := a % tagP = b % tagP
theorem alike.refl (a : Nat) : alike a a := rfl
theorem alike.symm {a b : Nat} (h : alike a b) : alike b a := Eq.symm h
theorem alike.trans {a b c : Nat} (h : alike a b) (h' : alike b c) : alike a c := Eq.trans h h'
theorem alike.add {a b c d : Nat} (h : alike a b) (h' : alike c d) : alike (a + c) (b + d) := by
  unfold alike at *
  rw [Nat.add_mod, h, h', ← Nat.add_mod]
theorem alike.mul {a b c d : Nat} (h : alike a b) (h' : alike c d) : alike (a * c) (b * d) := by
  unfold alike at *
  rw [Nat.mul_mod, h, h', ← Nat.mul_mod]
theorem alike_pow : alike (256 ^ 17) 320 := by
  unfold alike tagP
  decide
theorem alike_130 : alike (4 * 256 ^ 16) 5 := by
  unfold alike tagP
  decide
theorem alike_mod (a : Nat) : alike (a % tagP) a := Nat.mod_mod _ _
/-! ### a number times r -/
def coefN (h r : Nat → Nat) (i j : Nat) : Nat := if j ≤ i then h j * r (i - j) else 320 * h j * r (i + 17 - j)
def rowN (h r : Nat → Nat) (i : Nat) : Nat → Nat
  | 0 => 0
  | j + 1 => rowN h r i j + coefN h r i j
theorem turn_row (h r : Nat → Nat) (j : Nat) (hj : j ≤ 17) : alike (valN (fun i => coefN h r i j) 17) (h j * 256 ^ j * valN r 17) := by
  have e1 : valN (fun i => coefN h r i j) 17 = valN (fun i => coefN h r i j) j + 256 ^ j * valN (fun i => coefN h r (j + i) j) (17 - j) := by
    have := valN_split (fun i => coefN h r i j) j (17 - j)
    rwa [show j + (17 - j) = 17 by omega] at this
  have e2 : valN (fun i => coefN h r i j) j = 320 * (h j * valN (fun i => r (17 - j + i)) j) := by
    rw [← valN_mul, ← valN_mul]
    refine valN_congr fun i hi => ?_
    rw [coefN, if_neg (by omega), show i + 17 - j = 17 - j + i by omega, Nat.mul_assoc]
  have e3 : valN (fun i => coefN h r (j + i) j) (17 - j) = h j * valN r (17 - j) := by
    rw [← valN_mul]
    refine valN_congr fun i hi => ?_
    rw [coefN, if_pos (by omega), show j + i - j = i by omega]
  have e4 : valN r 17 = valN r (17 - j) + 256 ^ (17 - j) * valN (fun i => r (17 - j + i)) j := by
    have := valN_split r (17 - j) j
    rwa [show 17 - j + j = 17 by omega] at this
  have hp : 256 ^ j * 256 ^ (17 - j) = 256 ^ 17 := by rw [← Nat.pow_add, show j + (17 - j) = 17 by omega]
  rw [e1, e2, e3, e4]
  generalize valN (fun i => r (17 - j + i)) j = X
  generalize valN r (17 - j) = Y
  have e5 : h j * 256 ^ j * (Y + 256 ^ (17 - j) * X) = 256 ^ 17 * (h j * X) + 256 ^ j * (h j * Y) := by
    rw [← hp, Nat.mul_add, Nat.add_comm]
    congr 1
    · rw [Nat.mul_assoc, ← Nat.mul_assoc (256 ^ j) (256 ^ (17 - j)) X, Nat.mul_left_comm, ← Nat.mul_assoc]
    · rw [Nat.mul_assoc, Nat.mul_left_comm]
  rw [e5]
  exact (alike_pow.symm.mul (alike.refl _)).add (alike.refl _)
theorem val_rows (h r : Nat → Nat) : ∀ j, j ≤ 17 → alike (valN (fun i => rowN h r i j) 17) (valN h j * valN r 17)
  | 0, _ => by
    have e : valN (fun i => rowN h r i 0) 17 = 0 := by
      have := valN_mul (fun _ => 0) 0 17
      simpa [rowN] using this
    rw [e]
    simp [valN, alike]
  | j + 1, hj => by
    have e : valN (fun i => rowN h r i (j + 1)) 17 = valN (fun i => rowN h r i j) 17 + valN (fun i => coefN h r i j) 17 := by
      rw [← valN_add]
      rfl
    rw [e]
    show alike _ ((valN h j + h j * 256 ^ j) * valN r 17)
    rw [Nat.add_mul]
    exact (val_rows h r j (by omega)).add (turn_row h r j (by omega))
theorem val_times (h r : Nat → Nat) : alike (valN (fun i => rowN h r i 17) 17) (valN h 17 * valN r 17) := val_rows h r 17 (by omega)
theorem rowN_le {h r : Nat → Nat} (hh : ∀ i, h i < 256) (hr : ∀ i, r i < 256) (i : Nat) : ∀ j, rowN h r i j ≤ 20971520 * j
  | 0 => by simp [rowN]
  | j + 1 => by
    have h1 := rowN_le hh hr i j
    have hc : coefN h r i j ≤ 20971520 := by
      unfold coefN
      split
      · have := Nat.mul_le_mul (Nat.le_of_lt (hh j)) (Nat.le_of_lt (hr (i - j)))
        omega
      · have := Nat.mul_le_mul (Nat.mul_le_mul_left 320 (Nat.le_of_lt (hh j))) (Nat.le_of_lt (hr (i + 17 - j)))
        omega
    rw [rowN]
    omega
/-! ### a number made small again -/
def topN (x : Nat → Nat) : Nat := carN x 0 16 + x 16
def lowN (x : Nat → Nat) : Nat := 5 * (topN x / 4)
def lessN (x : Nat → Nat) (i : Nat) : Nat := if i < 16 then digN (digN x 0) (lowN x) i else topN x % 4 + carN (digN x 0) (lowN x) 16
theorem val_less (x : Nat → Nat) : alike (valN (lessN x) 17) (valN x 17) := by
  have h1 := val_carry x 0 16
  have h2 := val_carry (digN x 0) (lowN x) 16
  have e1 : valN (lessN x) 17 = valN (digN (digN x 0) (lowN x)) 16 + (topN x % 4 + carN (digN x 0) (lowN x) 16) * 256 ^ 16 := by
    show valN (lessN x) 16 + lessN x 16 * 256 ^ 16 = _
    rw [valN_congr (g := digN (digN x 0) (lowN x)) (fun i hi => by rw [lessN, if_pos hi])]
    rfl
  have e2 : valN x 17 = valN x 16 + x 16 * 256 ^ 16 := rfl
  have e3 : valN (lessN x) 17 = lowN x + valN (digN x 0) 16 + topN x % 4 * 256 ^ 16 := by rw [e1, Nat.add_mul]; omega
  have e4 : valN x 17 = valN (digN x 0) 16 + topN x % 4 * 256 ^ 16 + topN x / 4 * (4 * 256 ^ 16) := by
    rw [e2]
    have ht : topN x * 256 ^ 16 = topN x % 4 * 256 ^ 16 + topN x / 4 * (4 * 256 ^ 16) := by
      have := Nat.mod_add_div (topN x) 4
      omega
    have : topN x * 256 ^ 16 = carN x 0 16 * 256 ^ 16 + x 16 * 256 ^ 16 := by rw [topN, Nat.add_mul]
    omega
  rw [e3, e4, Nat.add_assoc, Nat.add_comm (lowN x)]
  refine (alike.refl _).add ?_
  rw [lowN, Nat.mul_comm]
  exact (alike.refl _).mul alike_130.symm
theorem carN_le {f : Nat → Nat} {M : Nat} (hf : ∀ i, f i ≤ 255 * M) {u : Nat} (hu : u ≤ M) : ∀ k, carN f u k ≤ M
  | 0 => hu
  | k + 1 => by
    have h1 := carN_le hf hu k
    have h2 := hf k
    rw [carN]
    omega
theorem lessN_small {x : Nat → Nat} (hx : ∀ i, x i ≤ 356515840) : (∀ i, i < 16 → lessN x i < 256) ∧ lessN x 16 ≤ 4 ∧ valN (lessN x) 17 < 256 ^ 16 * 4 + 1073741824 := by
  have hc : carN x 0 16 ≤ 1398102 := carN_le (M := 1398102) (fun i => by have := hx i; omega) (by omega) 16
  have ht : topN x ≤ 357913942 := by have := hx 16; unfold topN; omega
  have hl : lowN x ≤ 447392425 := by unfold lowN; omega
  have h2 := val_carry (digN x 0) (lowN x) 16
  have hd := valN_lt (f := digN x 0) (n := 16) (fun i _ => digN_lt _ _ _)
  have hd2 := valN_lt (f := digN (digN x 0) (lowN x)) (n := 16) (fun i _ => digN_lt _ _ _)
  have hc2 : carN (digN x 0) (lowN x) 16 ≤ 1 := by
    have hlt : 256 ^ 16 * carN (digN x 0) (lowN x) 16 < 256 ^ 16 * 2 := by
      have : (447392425 : Nat) < 256 ^ 16 := by decide
      omega
    have := Nat.lt_of_mul_lt_mul_left hlt
    omega
  have e1 : valN (lessN x) 17 = valN (digN (digN x 0) (lowN x)) 16 + (topN x % 4 + carN (digN x 0) (lowN x) 16) * 256 ^ 16 := by
    show valN (lessN x) 16 + lessN x 16 * 256 ^ 16 = _
    rw [valN_congr (g := digN (digN x 0) (lowN x)) (fun i hi => by rw [lessN, if_pos hi])]
    rfl
  refine ⟨fun i hi => by rw [lessN, if_pos hi]; exact digN_lt _ _ _, by rw [lessN, if_neg (by omega)]; omega, ?_⟩
  rw [e1, Nat.add_mul]
  have h4 : topN x % 4 ≤ 3 := by omega
  have h5 : topN x % 4 * 256 ^ 16 ≤ 3 * 256 ^ 16 := Nat.mul_le_mul_right _ h4
  omega
/-! ### the whole -/
def sumD (h c : Nat → Nat) (i : Nat) : Nat := digN (fun k => h k + c k) 0 i
def stepD (h c r : Nat → Nat) (i : Nat) : Nat := lessN (fun k => rowN (sumD h c) r k 17) i
def okD (h : Nat → Nat) : Prop := (∀ i, i < 16 → h i < 256) ∧ h 16 ≤ 4 ∧ valN h 17 < 256 ^ 16 * 4 + 1073741824
theorem stepD_ok (h c : Nat → Nat) {r : Nat → Nat} (hr : ∀ i, r i < 256) : okD (stepD h c r) :=
  lessN_small fun i => by
    have := rowN_le (h := sumD h c) (r := r) (fun i => digN_lt _ _ _) hr i 17
    omega
theorem val_sum {h c : Nat → Nat} (hs : valN h 17 + valN c 17 < 256 ^ 17) : valN (sumD h c) 17 = valN h 17 + valN c 17 := by
  have h1 := val_carry (fun k => h k + c k) 0 17
  rw [valN_add] at h1
  have h0 : carN (fun k => h k + c k) 0 17 = 0 := by
    have hlt : 256 ^ 17 * carN (fun k => h k + c k) 0 17 < 256 ^ 17 * 1 := by omega
    have := Nat.lt_of_mul_lt_mul_left hlt
    omega
  rw [h0] at h1
  show valN (digN (fun k => h k + c k) 0) 17 = _
  omega
theorem val_step {h c r : Nat → Nat} (hs : valN h 17 + valN c 17 < 256 ^ 17) : alike (valN (stepD h c r) 17) ((valN h 17 + valN c 17) * valN r 17) := by
  have h1 := val_less (fun k => rowN (sumD h c) r k 17)
  have h2 := val_times (sumD h c) r
  rw [val_sum hs] at h2
  exact h1.trans h2
def negD (i : Nat) : Nat := if i = 0 then 5 else if i = 16 then 252 else 0
theorem val_neg : valN negD 17 + tagP = 256 ^ 17 := by decide
def lastD (h : Nat → Nat) (i : Nat) : Nat := if sumD h negD 16 < 128 then sumD h negD i else h i
theorem val_last {h : Nat → Nat} (ho : okD h) : valN (lastD h) 17 = valN h 17 % tagP := by
  obtain ⟨h1, h2, h3⟩ := ho
  have hn := val_neg
  have hc := val_carry (fun k => h k + negD k) 0 17
  rw [valN_add] at hc
  have hl := valN_lt (f := sumD h negD) (n := 17) (fun i _ => digN_lt _ _ _)
  have hl6 := valN_lt (f := sumD h negD) (n := 16) (fun i _ => digN_lt _ _ _)
  have e17 : valN (sumD h negD) 17 = valN (sumD h negD) 16 + sumD h negD 16 * 256 ^ 16 := rfl
  have hP : 256 ^ 16 * 4 = tagP + 5 := by decide
  have hb : (256 : Nat) ^ 17 = 256 * 256 ^ 16 := by decide
  have es : valN (digN (fun k => h k + negD k) 0) 17 = valN (sumD h negD) 17 := rfl
  rw [es] at hc
  by_cases hge : tagP ≤ valN h 17
  · have h0 : carN (fun k => h k + negD k) 0 17 = 1 := by
      have hlt : 256 ^ 17 * carN (fun k => h k + negD k) 0 17 < 256 ^ 17 * 2 := by omega
      have h2' := Nat.lt_of_mul_lt_mul_left hlt
      have hgt : 0 < 256 ^ 17 * carN (fun k => h k + negD k) 0 17 := by omega
      have := Nat.pos_of_mul_pos_left hgt
      omega
    rw [h0] at hc
    have hv : valN (sumD h negD) 17 = valN h 17 - tagP := by omega
    have hsm : sumD h negD 16 < 128 := by
      have hlt : sumD h negD 16 * 256 ^ 16 < 128 * 256 ^ 16 := by omega
      exact Nat.lt_of_mul_lt_mul_right hlt
    have e : lastD h = sumD h negD := by funext i; rw [lastD, if_pos hsm]
    rw [e, hv, Nat.mod_eq_sub_mod hge, Nat.mod_eq_of_lt (by omega)]
  · have h0 : carN (fun k => h k + negD k) 0 17 = 0 := by
      have hlt : 256 ^ 17 * carN (fun k => h k + negD k) 0 17 < 256 ^ 17 * 1 := by omega
      have := Nat.lt_of_mul_lt_mul_left hlt
      omega
    rw [h0] at hc
    have hv : valN (sumD h negD) 17 = valN h 17 + valN negD 17 := by omega
    have hsm : ¬ sumD h negD 16 < 128 := by
      intro hlt
      have : sumD h negD 16 * 256 ^ 16 ≤ 127 * 256 ^ 16 := Nat.mul_le_mul_right _ (by omega)
      omega
    have e : lastD h = h := by funext i; rw [lastD, if_neg hsm]
    rw [e, Nat.mod_eq_of_lt (by omega)]
end Go.Proofs.YtnpffnhiefgglaaGreatDoor
namespace Go.Proofs.YtnpffnhiefgglaaGreatDoor
open Go.RowKit
set_option maxRecDepth 100000
def dL (f : Nat → Nat) (n : Nat) : List Int := (List.range n).map fun i => ((f i : Nat) : Int)
theorem dL_length (f : Nat → Nat) (n : Nat) : (dL f n).length = n := by simp [dL]
theorem dL_getD (f : Nat → Nat) {n k : Nat} (h : k < n) : (dL f n).getD k 0 = ((f k : Nat) : Int) := by simp [dL, h]
theorem dL_step (f : Nat → Nat) (k : Nat) : dL f k ++ [((f k : Nat) : Int)] = dL f (k + 1) := by simp [dL, List.range_succ]
theorem dL_congr {f g : Nat → Nat} {n : Nat} (h : ∀ i, i < n → f i = g i) : dL f n = dL g n := by
  apply List.map_congr_left
  intro i hi
  rw [h i (List.mem_range.1 hi)]
theorem and_low (k : Nat) (hk : k ≤ 32) (v : Nat) (hv : v < 9223372036854775808) : bits .and .i64 (v : Int) ((2 ^ k - 1 : Nat) : Int) = ((v % 2 ^ k : Nat) : Int) := by
  have e : bits .and .i64 (v : Int) ((2 ^ k - 1 : Nat) : Int) = IntKind.i64.wrap ((BitVec.ofInt 64 (v : Int) &&& BitVec.ofInt 64 ((2 ^ k - 1 : Nat) : Int)).toNat : Int) := rfl
  have e1 : (BitVec.ofInt 64 (v : Int)).toNat = v := by rw [BitVec.toNat_ofInt]; omega
  have hp : 2 ^ k ≤ 4294967296 := Nat.le_trans (Nat.pow_le_pow_right (by decide) hk) (by decide)
  have e2 : (BitVec.ofInt 64 ((2 ^ k - 1 : Nat) : Int)).toNat = 2 ^ k - 1 := by rw [BitVec.toNat_ofInt]; omega
  rw [e, BitVec.toNat_and, e1, e2, Nat.and_two_pow_sub_one_eq_mod, IntKind.wrap_i64]
  have : v % 2 ^ k ≤ v := Nat.mod_le _ _
  omega
theorem and_255 (v : Nat) (hv : v < 9223372036854775808) : bits .and .i64 (v : Int) 255 = ((v % 256 : Nat) : Int) := and_low 8 (by decide) v hv
theorem and_3 (v : Nat) (hv : v < 9223372036854775808) : bits .and .i64 (v : Int) 3 = ((v % 4 : Nat) : Int) := and_low 2 (by decide) v hv
theorem and_15 (v : Nat) (hv : v < 9223372036854775808) : bits .and .i64 (v : Int) 15 = ((v % 16 : Nat) : Int) := and_low 4 (by decide) v hv
set_option maxHeartbeats 2400000 in
theorem l6Add_any (p q : Option Addr) (c d : Nat) (h g : Nat → Nat) (w : World) (hp : IntsIn w p 17 (dL h 17)) (hq : IntsIn w q 17 (dL g 17)) (hh : ∀ i, i < 17 → h i < 256) (hg : ∀ i, i < 17 → g i < 256) :
    Calls Tryz.prog 161 #[.slice p 17 c, .slice q 17 d] w fun e w' => ∃ p' c', e = .returned (.slice p' 17 c') ∧ OwnI 3 w' w.heap.size w'.heap.size (.slice p' 17 c') 17 (dL (sumD h g) 17) ∧ Below w.heap.size w w' := by
  obtain ⟨i0, hi, hz0, hz1, hz2⟩ := info_parts infoInt
  obtain ⟨b1, o1, rfl, hc1⟩ := hp (by decide)
  obtain ⟨b2, o2, rfl, hc2⟩ := hq (by decide)
  have l1 : b1 < w.heap.size := World.block_lt_of_cell? w ⟨b1, o1 + 0, none⟩ (hc1 0 (by omega))
  have l2 : b2 < w.heap.size := World.block_lt_of_cell? w ⟨b2, o2 + 0, none⟩ (hc2 0 (by omega))
  have HC : Hid (∀ X k, k < 17 → Below w.heap.size w X → X.cell? ⟨b1, o1 + k, none⟩ = some (.int .i64 ((h k : Nat) : Int)) ∧ X.cell? ⟨b2, o2 + k, none⟩ = some (.int .i64 ((g k : Nat) : Int))) := fun X k hk hX => by
    have a1 := hc1 k hk
    have a2 := hc2 k hk
    rw [dL_getD _ hk] at a1 a2
    exact ⟨(hX.cell (p := ⟨b1, o1 + k, none⟩) l1).trans a1, (hX.cell (p := ⟨b2, o2 + k, none⟩) l2).trans a2⟩
  have HU : Hid (∀ k, k ≤ 17 → carN (fun i => h i + g i) 0 k ≤ 2) := fun k hk => by
    have key : ∀ k, k ≤ 17 → carN (fun i => h i + g i) 0 k ≤ 2 := by
      intro k
      induction k with
      | zero => intro _; simp [carN]
      | succ k ih =>
        intro hk
        have h1 := ih (by omega)
        have h2 := hh k (by omega)
        have h3 := hg k (by omega)
        simp only [carN]
        omega
    exact key k hk
  have hown0 : (w.alloc (.cells #[] 3)).ownsRow w.heap.size 3 1 (.slice (some ⟨w.heap.size, 0, none⟩) 0 0) 0 ((dL (sumD h g) 0).map (Value.int .i64)) := World.ownsRow_made w #[] 0 (Nat.le_refl _) (by unfold maxLen; omega) rfl
  have hb0 : Below w.heap.size w (w.alloc (.cells #[] 3)) := (Below.refl _ _).alloc (Nat.le_refl _) _
  clear hp hq hc1 hc2 l1 l2
  go_enter Tryz.func161, Tryz.ntmps161
  go_wp2_with (fail)
  go_loopw [5, 6, 7] (fun v u i wr => ∃ (k : Nat) (q : Option Addr) (cc : Nat), k ≤ 17 ∧ i = .int .i64 k ∧ u = .int .i64 ((carN (fun i => h i + g i) 0 k : Nat) : Int) ∧ v = .slice q k cc ∧ wr.ownsRow w.heap.size 3 1 (.slice q k cc) k ((dL (sumD h g) k).map (Value.int .i64)) ∧ Below w.heap.size w wr)
    (fun _ _ i _ => 17 - (intOf i).toNat)
  case atStart => exact ⟨0, _, 0, by omega, rfl, rfl, rfl, hown0, hb0⟩
  case round =>
    clear hown0 hb0
    obtain ⟨k, q, cc, hk, rfl, rfl, rfl, hown, hbel⟩ := hrel
    by_cases hlt : k < 17
    · have hlt' : (k : Int) < 17 := by omega
      obtain ⟨e1, e2⟩ := HC.out wr k hlt hbel
      have hu := HU.out k hk
      have hs := hh k hlt
      have ht := hg k hlt
      have HX : Hid (carN (fun i => h i + g i) 0 (k + 1) = (carN (fun i => h i + g i) 0 k + (h k + g k)) / 256) := rfl
      have HY : Hid (sumD h g k = (carN (fun i => h i + g i) 0 k + (h k + g k)) % 256) := rfl
      have HL : Hid (dL (sumD h g) k ++ [((sumD h g k : Nat) : Int)] = dL (sumD h g) (k + 1)) := dL_step _ k
      rw [HY.out] at HL
      generalize carN (fun i => h i + g i) 0 k = u at hu HX HL
      generalize h k = x at e1 hs HX HL
      generalize g k = y at e2 ht HX HL
      obtain ⟨v, hv⟩ : ∃ v : Nat, v = u + (x + y) := ⟨_, rfl⟩
      have ev : (u : Int) + (x : Int) + (y : Int) = (v : Int) := by omega
      have lv : v < 1024 := by omega
      rw [← hv] at HX HL
      obtain ⟨u', hu'⟩ : ∃ u' : Nat, u' = v / 256 := ⟨_, rfl⟩
      obtain ⟨x', hx'⟩ : ∃ x' : Nat, x' = v % 256 := ⟨_, rfl⟩
      have ea := and_255 v (by omega)
      rw [← hx'] at ea HL
      have es : (v : Int) / 256 = (u' : Int) := by omega
      rw [← hu'] at HX
      clear hx' hu'
      clear hv
      go_wp2_with (fail)
      go_quiet (fail)
      obtain ⟨wd, hwd⟩ : ∃ wd, wd = wr.drewN nq := ⟨_, rfl⟩
      rw [← hwd]
      have bd : Below wr.heap.size wr wd := by rw [hwd]; exact below_drewN (Below.refl _ _) _
      replace hown := owns_below hown bd
      replace hbel := below_on hbel bd
      clear hwd bd e1 e2 hu hs ht ev
      have hsw := hbel.size
      go_wp2_with (at_builtin; refine list_pushI hi hz0 hz1 hz2 (.tmp 24) (.tmp 27) 52 Tryz.underlying52 _ hown (by omega) hsw (by rfl) (by rfl) (by rfl) (by rfl) ?_; intro p' cap w3 ho3 hb3)
      rw [HL.out] at ho3
      go_roundw
      case rel => exact ⟨k + 1, _, cap, by omega, by go_num, by rw [HX.out], rfl, ho3, hbel.trans hb3⟩
      case measure => simp [intOf]; omega
    · obtain rfl : k = 17 := by omega
      go_wp2_with (fail)
      go_ret
      exact ⟨_, _, rfl, .of hown, hbel⟩
/-! ### a number made small again -/
theorem dL_set (f : Nat → Nat) (n k v : Nat) : (dL f n).set k (v : Int) = dL (fun i => if i = k then v else f i) n := by
  apply List.ext_getElem?
  intro j
  by_cases hj : j < n
  · by_cases hk : k = j
    · subst hk
      rw [List.getElem?_set_self (by rw [dL_length]; exact hj)]
      simp [dL, hj]
    · rw [List.getElem?_set_ne hk]
      simp [dL, hj, Ne.symm hk]
  · rw [List.getElem?_eq_none (by simp [dL_length]; omega), List.getElem?_eq_none (by simp [dL_length]; omega)]
def less1 (x : Nat → Nat) (k i : Nat) : Nat := if i < k then digN x 0 i else x i
def less2 (x : Nat → Nat) (k i : Nat) : Nat := if i < k then digN (digN x 0) (lowN x) i else if i < 16 then digN x 0 i else topN x % 4
theorem less1_step (x : Nat → Nat) (k : Nat) : dL (fun i => if i = k then digN x 0 k else less1 x k i) 17 = dL (less1 x (k + 1)) 17 := by
  refine dL_congr fun i _ => ?_
  unfold less1
  by_cases h : i = k
  · subst h; simp
  · have : i < k ↔ i < k + 1 := by omega
    simp [h, this]
theorem less1_end (x : Nat → Nat) : dL (fun i => if i = 16 then topN x % 4 else less1 x 16 i) 17 = dL (less2 x 0) 17 := by
  refine dL_congr fun i hi => ?_
  unfold less1 less2
  by_cases h : i = 16
  · subst h; simp
  · have : i < 16 := by omega
    simp [h, this]
theorem less2_step (x : Nat → Nat) (k : Nat) : dL (fun i => if i = k then digN (digN x 0) (lowN x) k else less2 x k i) 17 = dL (less2 x (k + 1)) 17 := by
  refine dL_congr fun i _ => ?_
  unfold less2
  by_cases h : i = k
  · subst h; simp
  · have : i < k ↔ i < k + 1 := by omega
    simp [h, this]
theorem less2_end (x : Nat → Nat) : dL (fun i => if i = 16 then topN x % 4 + carN (digN x 0) (lowN x) 16 else less2 x 16 i) 17 = dL (lessN x) 17 := by
  refine dL_congr fun i hi => ?_
  unfold lessN less2
  by_cases h : i = 16
  · subst h; simp
  · have : i < 16 := by omega
    simp [h, this]
set_option maxHeartbeats 2400000 in
theorem l6Less_any (lo g c : Nat) (x : Nat → Nat) (w : World) (hx : ∀ i, x i ≤ 356515840) (h : w.ownsRow lo 3 1 (.slice (some ⟨g, 0, none⟩) 17 c) 17 ((dL x 17).map (Value.int .i64))) :
    Calls Tryz.prog 198 #[.slice (some ⟨g, 0, none⟩) 17 c] w fun e w' => e = .returned (.slice (some ⟨g, 0, none⟩) 17 c) ∧ w'.ownsRow lo 3 1 (.slice (some ⟨g, 0, none⟩) 17 c) 17 ((dL (lessN x) 17).map (Value.int .i64)) ∧ w.grownBy w' (some g) := by
  have HC : Hid (∀ k, carN x 0 k ≤ 1398102) := fun k => carN_le (M := 1398102) (fun i => by have := hx i; omega) (by omega) k
  have ht : topN x ≤ 357913942 := by have := hx 16; have := HC.out 16; unfold topN; omega
  have hl : lowN x ≤ 447392425 := by unfold lowN; omega
  have HD : Hid (∀ k, carN (digN x 0) (lowN x) k ≤ 447392425) := fun k => carN_le (M := 447392425) (fun i => by have := digN_lt x 0 i; omega) hl k
  have h0 : w.ownsRow lo 3 1 (.slice (some ⟨g, 0, none⟩) 17 c) 17 ((dL (less1 x 0) 17).map (Value.int .i64)) := h
  clear h
  go_enter Tryz.func198, Tryz.ntmps198
  go_wp2_with (fail)
  go_loopw [3, 4] (fun u i wr => ∃ (k : Nat), k ≤ 16 ∧ i = .int .i64 k ∧ u = .int .i64 ((carN x 0 k : Nat) : Int) ∧ wr.ownsRow lo 3 1 (.slice (some ⟨g, 0, none⟩) 17 c) 17 ((dL (less1 x k) 17).map (Value.int .i64)) ∧ w.grownBy wr (some g))
    (fun _ i _ => 16 - (intOf i).toNat)
  case atStart => exact ⟨0, by omega, rfl, rfl, h0, World.grownBy.refl _ _⟩
  case round =>
    clear h0
    obtain ⟨k, hk, rfl, rfl, hown, hgr⟩ := hrel
    by_cases hlt : k < 16
    · have hlt' : (k : Int) < 16 := by omega
      have hlt7 : (k : Int) < 17 := by omega
      have e1 : wr.cell? ⟨g, k, none⟩ = some (.int .i64 ((x k : Nat) : Int)) := by
        rw [hown.cellAt k (by omega), List.getElem?_map]
        simp [dL, less1, show k < 17 by omega]
      have hfr := hown.frozenAt k
      have hu := HC.out k
      have hs := hx k
      have HX : Hid (carN x 0 (k + 1) = (carN x 0 k + x k) / 256) := rfl
      have HY : digN x 0 k = (carN x 0 k + x k) % 256 := rfl
      have st := hown.stored k (.int .i64 ((digN x 0 k : Nat) : Int))
      rw [← List.map_set, dL_set, less1_step] at st
      rw [HY] at st
      clear HY
      generalize carN x 0 k = u at hu HX st
      generalize x k = y at e1 hs HX st
      obtain ⟨v, hv⟩ : ∃ v : Nat, v = u + y := ⟨_, rfl⟩
      have ev : (u : Int) + (y : Int) = (v : Int) := by omega
      have lv : v < 400000000 := by omega
      rw [← hv] at HX st
      obtain ⟨u', hu'⟩ : ∃ u' : Nat, u' = v / 256 := ⟨_, rfl⟩
      obtain ⟨x', hx'⟩ : ∃ x' : Nat, x' = v % 256 := ⟨_, rfl⟩
      have ea := and_255 v (by omega)
      rw [← hx'] at ea st
      have es : (v : Int) / 256 = (u' : Int) := by omega
      rw [← hu'] at HX
      have hgr' := grown_trans hgr st.2
      have st' := st.1
      clear hx' hu' hv hown hgr st
      go_wp2
      go_roundw
      case rel => exact ⟨k + 1, by omega, by go_num, by rw [HX.out], st', hgr'⟩
      case measure => simp [intOf]; omega
    · obtain rfl : k = 16 := by omega
      have e1 : wr.cell? ⟨g, 16, none⟩ = some (.int .i64 ((x 16 : Nat) : Int)) := by
        rw [hown.cellAt 16 (by omega), List.getElem?_map]
        rfl
      have hfr := hown.frozenAt 16
      have st := hown.stored 16 (.int .i64 ((topN x % 4 : Nat) : Int))
      rw [← List.map_set, dL_set, less1_end] at st
      have ev : ((carN x 0 16 : Nat) : Int) + ((x 16 : Nat) : Int) = ((topN x : Nat) : Int) := by unfold topN; omega
      have HLo : Hid (lowN x = 5 * (topN x / 4)) := rfl
      have hu := HC.out 16
      have hs := hx 16
      obtain ⟨t, hT⟩ : ∃ t, t = topN x := ⟨_, rfl⟩
      rw [← hT] at ev ht st HLo
      obtain ⟨L, hL⟩ : ∃ L, L = lowN x := ⟨_, rfl⟩
      rw [← hL] at HLo hl HD
      obtain ⟨t3, ht3⟩ : ∃ t3 : Nat, t3 = t % 4 := ⟨_, rfl⟩
      obtain ⟨t4, ht4⟩ : ∃ t4 : Nat, t4 = t / 4 := ⟨_, rfl⟩
      have ea := and_3 t (by omega)
      rw [← ht3] at ea st
      have es : (t : Int) / 4 = (t4 : Int) := by omega
      rw [← ht4] at HLo
      have em : (5 : Int) * (t4 : Int) = (L : Int) := by rw [HLo.out]; omega
      have hgr' := grown_trans hgr st.2
      have st' := st.1
      generalize carN x 0 16 = u at hu ev
      generalize x 16 = y at e1 hs ev
      replace hT : Hid (t = topN x) := hT
      replace hL : Hid (L = lowN x) := hL
      replace ht3 : Hid (t3 = t % 4) := ht3
      clear st hown hgr ht4 HLo
      go_wp2_with (fail)
      generalize wr.setCell ⟨g, 16, none⟩ (.int .i64 (t3 : Int)) = wc at st' hgr' ⊢
      clear ea es em ev e1 hfr
      go_loopw [3, 5] (fun u i wr => ∃ (k : Nat), k ≤ 16 ∧ i = .int .i64 k ∧ u = .int .i64 ((carN (digN x 0) L k : Nat) : Int) ∧ wr.ownsRow lo 3 1 (.slice (some ⟨g, 0, none⟩) 17 c) 17 ((dL (less2 x k) 17).map (Value.int .i64)) ∧ w.grownBy wr (some g))
        (fun _ i _ => 16 - (intOf i).toNat)
      case atStart => exact ⟨0, by omega, rfl, rfl, st', hgr'⟩
      case round =>
        clear st' hgr'
        obtain ⟨k, hk, rfl, rfl, hown, hgr⟩ := hrel
        by_cases hlt : k < 16
        · have hlt' : (k : Int) < 16 := by omega
          have hlt7 : (k : Int) < 17 := by omega
          have e1 : wr.cell? ⟨g, k, none⟩ = some (.int .i64 ((digN x 0 k : Nat) : Int)) := by
            rw [hown.cellAt k (by omega), List.getElem?_map]
            simp [dL, less2, show k < 17 by omega, hlt]
          have hfr := hown.frozenAt k
          have hu := HD.out k
          have hs := digN_lt x 0 k
          have HX : Hid (carN (digN x 0) L (k + 1) = (carN (digN x 0) L k + digN x 0 k) / 256) := rfl
          have HY : digN (digN x 0) L k = (carN (digN x 0) L k + digN x 0 k) % 256 := rfl
          have st := hown.stored k (.int .i64 ((digN (digN x 0) L k : Nat) : Int))
          rw [← List.map_set, dL_set, hL.out, less2_step, ← hL.out] at st
          rw [HY] at st
          clear HY
          generalize carN (digN x 0) L k = u at hu HX st
          generalize digN x 0 k = y at e1 hs HX st
          obtain ⟨v, hv⟩ : ∃ v : Nat, v = u + y := ⟨_, rfl⟩
          have ev : (u : Int) + (y : Int) = (v : Int) := by omega
          have lv : v < 500000000 := by omega
          rw [← hv] at HX st
          obtain ⟨u', hu'⟩ : ∃ u' : Nat, u' = v / 256 := ⟨_, rfl⟩
          obtain ⟨x', hx'⟩ : ∃ x' : Nat, x' = v % 256 := ⟨_, rfl⟩
          have ea := and_255 v (by omega)
          rw [← hx'] at ea st
          have es : (v : Int) / 256 = (u' : Int) := by omega
          rw [← hu'] at HX
          have hgr' := grown_trans hgr st.2
          have st' := st.1
          clear hx' hu' hv hown hgr st
          go_wp2
          go_roundw
          case rel => exact ⟨k + 1, by omega, by go_num, by rw [HX.out], st', hgr'⟩
          case measure => simp [intOf]; omega
        · obtain rfl : k = 16 := by omega
          have e1 : wr.cell? ⟨g, 16, none⟩ = some (.int .i64 (t3 : Int)) := by
            rw [hown.cellAt 16 (by omega), List.getElem?_map, ht3.out, hT.out]
            rfl
          have hfr := hown.frozenAt 16
          have st := hown.stored 16 (.int .i64 ((topN x % 4 + carN (digN x 0) (lowN x) 16 : Nat) : Int))
          rw [← List.map_set, dL_set, less2_end] at st
          rw [← hT.out, ← ht3.out, ← hL.out] at st
          have hu := HD.out 16
          have l3 : t3 ≤ 3 := by rw [ht3.out]; omega
          generalize carN (digN x 0) L 16 = u at hu st
          obtain ⟨v, hv⟩ : ∃ v : Nat, v = t3 + u := ⟨_, rfl⟩
          have ev : (t3 : Int) + (u : Int) = (v : Int) := by omega
          have lv : v < 500000000 := by omega
          rw [← hv] at st
          have hgr' := grown_trans hgr st.2
          have st' := st.1
          clear hv hown hgr st
          go_wp2
          go_ret
          exact ⟨rfl, st', hgr'⟩
end Go.Proofs.YtnpffnhiefgglaaGreatDoor
