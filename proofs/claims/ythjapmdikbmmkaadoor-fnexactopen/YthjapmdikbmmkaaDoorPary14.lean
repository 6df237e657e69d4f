/-
  Stream beside others: Xor's call, beside others.
  Stream beside others: the receiver whole, from its first receive to the news of the close.
  A run beside others, carried over from a run alone, up to the numbers of blocks. HERE: the whole run of goroutine 0, through doors.
  Stream beside others: from the making of the channel to the return.
  Stream beside others: newStream where a length is wrong, by its own steps.
  The machine's steps round a deferred closure: it is put aside, called at a return and at a panic; a recover in it; a panic, and how it goes up; the way back. No program is spoken of.
-/
import Derived.Test.YthjapmdikbmmkaaDoorPary13
import Derived.Test.YthjapmdikbmmkaaDoorPary09
import Derived.Conc.DeferLaws
namespace Go.Proofs.YthjapmdikbmmkaaDoor
open Go Go.Conc
set_option maxRecDepth 100000

theorem renX_lo1 (b1 o1 b2 o2 : Nat) : (renX b1 o1 b2 o2).lo Tryd.prog.globals.size = o1 + 1 := by simp only [renX, if_true]
theorem renX_lo2 (b1 o1 b2 o2 : Nat) : (renX b1 o1 b2 o2).lo (Tryd.prog.globals.size + 1) = o2 + 1 := by
  unfold renX
  dsimp only
  rw [if_neg (by omega), if_pos rfl]
theorem part_cell {W : World} {g o : Nat} {xs : List Int} {e : TypeId} {fr : Nat × Nat} (h : W.heap[g]? = some (.cells (partRow o xs) e fr)) (i : Nat) (hi : i < xs.length) : W.cell? ⟨g, o + i, none⟩ = some (.int .u8 (xs.getD i 0)) := by
  have h1 := partRow_at o xs i
  rw [List.getElem?_eq_getElem hi] at h1
  simp only [World.cell?, h, Option.isSome_none, Bool.false_eq_true, if_false, h1, Option.map_some, List.getD_eq_getElem?_getD, List.getElem?_eq_getElem hi, Option.getD_some]
section
variable {Sh : Nat → Prop} {Stop : (Nat → Prop) → Goroutine → World → Prop} {M : Nat → Prop} {w : World}
theorem xor_co (b1 o1 c1 b2 o2 c2 : Nat) (xs ys : List Int) (c : Frame) (cs : List Frame) (hx0 : 0 < xs.length) (hy0 : 0 < ys.length) (hx1 : xs.length ≤ 1048576) (hy1 : ys.length ≤ 1048576) (hx : ∀ j u, xs[j]? = some u → w.cell? ⟨b1, o1 + j, none⟩ = some (.int .u8 u)) (hy : ∀ j u, ys[j]? = some u → w.cell? ⟨b2, o2 + j, none⟩ = some (.int .u8 u))
    (hM1 : M b1) (hM2 : M b2) (hM : ∀ b, M b → b < w.heap.size) (hSw : ∀ b, Sh b → b < w.heap.size)
    (next : ∀ w1 M' γ c', (∀ b, M b → M' b) → (∀ b, M' b → b < w1.heap.size) → (∀ b, M' b → M b ∨ w.heap.size ≤ b) → Keeps M w w1 → w.heap.size ≤ γ → M' γ → (∀ j u, (xorL xs ys)[j]? = some u → w1.cell? ⟨γ, 0 + j, none⟩ = some (.int .u8 u)) → Co Tryd.prog true Sh Stop M' (G (c.finish (.slice (some ⟨γ, 0, none⟩) (min xs.length ys.length) c')) cs) w1) :
    Co Tryd.prog true Sh Stop M (G (Frame.enter Tryd.prog 46 #[.slice (some ⟨b1, o1, none⟩) xs.length c1, .slice (some ⟨b2, o2, none⟩) ys.length c2] .normal) (c :: cs)) w := by
  have hlen : (xorL xs ys).length = min xs.length ys.length := xorL_length xs ys
  refine co_call_on (Gl := glX) (Al := alX) (Sh := ShX) (ρ := renX b1 o1 b2 o2) (R := fun b => M b ∧ b ≠ b1 ∧ b ≠ b2) (args := #[.slice (some ⟨Tryd.prog.globals.size, o1, none⟩) xs.length c1, .slice (some ⟨Tryd.prog.globals.size + 1, o2, none⟩) ys.length c2]) (wg := ghostX w o1 xs o2 ys)
    (Post := fun v w1 => ∃ g cap, v = .slice (some ⟨g, 0, none⟩) (min xs.length ys.length) cap ∧ Tryd.prog.globals.size + 2 ≤ g ∧ ∀ i, i < min xs.length ys.length → w1.cell? ⟨g, 0 + i, none⟩ = some (.int .u8 ((xorL xs ys).getD i 0)))
    tameX (fun b b' hb _ => hb.imp And.left And.left) hSw (by rfl) (fun τ => ?_) (sit_X hx0 hy0 hx hy) ?_ (fun b => ?_) (fun b hb => ⟨hM b hb.1, fun ⟨c, hc⟩ => ?_⟩) fun ρ1 v v' w1g w1 M' hv hP hrel hle hnew hM' hkR hst => ?_
  · have h1 : (World.ret (ghostX w o1 xs o2 ys) τ).heap[Tryd.prog.globals.size]? = _ := ghostX_one w o1 xs o2 ys
    have h2 : (World.ret (ghostX w o1 xs o2 ys) τ).heap[Tryd.prog.globals.size + 1]? = _ := ghostX_two w o1 xs o2 ys
    have hsz : (World.ret (ghostX w o1 xs o2 ys) τ).heap.size = Tryd.prog.globals.size + 2 := ghostX_size w o1 xs o2 ys
    refine (implXor_any _ _ _ _ c1 c2 xs ys (World.ret (ghostX w o1 xs o2 ys) τ) hx1 hy1 rfl rfl (fun _ => ⟨_, _, rfl, fun i hi => part_cell h1 i hi⟩) (fun _ => ⟨_, _, rfl, fun i hi => part_cell h2 i hi⟩)).mono fun e w' ⟨v, e1, e2, e3⟩ => ⟨v, e1, ?_⟩
    rcases e2.2 with ⟨_, h0⟩ | ⟨g, cap, cur, rfl, hg, _⟩
    · omega
    · refine ⟨g, cap, rfl, by omega, fun i hi => ?_⟩
      have := e2.cellAt i (by omega)
      rw [Nat.zero_add, this, List.getElem?_map, List.getElem?_eq_getElem (by omega), Option.map_some, List.getD_eq_getElem?_getD, List.getElem?_eq_getElem (by omega), Option.getD_some]
  · refine ⟨rfl, fun j x x' h1 h2 => ?_⟩
    match j with
    | 0 =>
      cases h1
      cases h2
      exact .slice _ _ ⟨.inl ⟨rfl, rfl⟩, rfl, rfl, fun h => absurd h (Nat.lt_irrefl _), by rw [renX_lo1]; exact Nat.le_refl _⟩
    | 1 =>
      cases h1
      cases h2
      exact .slice _ _ ⟨.inr ⟨rfl, rfl⟩, rfl, rfl, fun h => absurd h (Nat.not_lt.2 (Nat.le_succ _)), by rw [renX_lo2]; exact Nat.le_refl _⟩
    | j + 2 => cases h1
  · constructor
    · intro hb
      by_cases e1 : b = b1
      · exact .inl ⟨_, .inl ⟨rfl, e1⟩⟩
      · by_cases e2 : b = b2
        · exact .inl ⟨_, .inr ⟨rfl, e2⟩⟩
        · exact .inr ⟨hb, e1, e2⟩
    · rintro (⟨_, ⟨_, rfl⟩ | ⟨_, rfl⟩⟩ | hb)
      · exact hM1
      · exact hM2
      · exact hb.1
  · rcases hc with ⟨_, h⟩ | ⟨_, h⟩
    · exact hb.2.1 h
    · exact hb.2.2 h
  · obtain ⟨g, cap, rfl, hg, hcell⟩ := hP
    obtain ⟨γ, rfl, hγ, hcell'⟩ := cells_over hrel hv (fun i => (xorL xs ys).getD i 0) .u8 hcell
    have hγn : w.heap.size ≤ γ := by
      rcases hnew g γ hγ with (x | x) | x
      · omega
      · omega
      · exact x.2
    have hb1 : w1.heap[b1]? = w.heap[b1]? := hst _ _ (.inl rfl) (.inl ⟨rfl, rfl⟩)
    have hb2 : w1.heap[b2]? = w.heap[b2]? := hst _ _ (.inr rfl) (.inr ⟨rfl, rfl⟩)
    refine next w1 M' γ cap (fun b hb => (hM' b).2 ?_) (fun b hb => ?_) (fun b hb => ?_) ⟨fun b hb => ?_, hkR.size, hkR.os, hkR.output, hkR.tape⟩ hγn ((hM' γ).2 (.inl ⟨g, hγ⟩)) fun j u hu => ?_
    · by_cases e1 : b = b1
      · exact .inl ⟨_, hle.app (.inl ⟨rfl, e1⟩)⟩
      · by_cases e2 : b = b2
        · exact .inl ⟨_, hle.app (.inr ⟨rfl, e2⟩)⟩
        · exact .inr ⟨hb, e1, e2⟩
    · rcases (hM' b).1 hb with ⟨d, hd⟩ | hb
      · exact (hrel.lt hd).2
      · exact Nat.lt_of_lt_of_le (hM b hb.1) hkR.size
    · rcases (hM' b).1 hb with ⟨d, hd⟩ | hb
      · rcases hnew d b hd with (⟨_, rfl⟩ | ⟨_, rfl⟩) | x
        · exact .inl hM1
        · exact .inl hM2
        · exact .inr x.2
      · exact .inl hb.1
    · by_cases e1 : b = b1
      · exact e1 ▸ hb1
      · by_cases e2 : b = b2
        · exact e2 ▸ hb2
        · exact hkR.heap b ⟨hb, e1, e2⟩
    · have hj : j < min xs.length ys.length := by
        rw [← hlen]
        exact (List.getElem?_eq_some_iff.1 hu).1
      rw [hcell' j hj, List.getD_eq_getElem?_getD, hu, Option.getD_some]
end

end Go.Proofs.YthjapmdikbmmkaaDoor

namespace Go.Proofs.YthjapmdikbmmkaaDoor
open Go Go.Conc
set_option maxRecDepth 100000

def sixtyL (f : Nat → Int) : List Int := (List.range 64).map f
theorem sixtyL_length (f : Nat → Int) : (sixtyL f).length = 64 := by simp [sixtyL]
theorem sixtyL_at {f : Nat → Int} {j : Nat} {u : Int} (h : (sixtyL f)[j]? = some u) : j < 64 ∧ u = f j := by
  have hj : j < 64 := by
    have := (List.getElem?_eq_some_iff.1 h).1
    rwa [sixtyL_length] at this
  refine ⟨hj, ?_⟩
  simp only [sixtyL, List.getElem?_map, List.getElem?_range hj, Option.map_some, Option.some.injEq] at h
  exact h.symm
def outR (BS : List Int) (bs : Nat → Nat → Int) : Nat → List Int
  | 0 => []
  | i + 1 => outR BS bs i ++ xorL (BS.drop (64 * i)) (sixtyL (bs i))
theorem outR_length (BS : List Int) (bs : Nat → Nat → Int) (i : Nat) : (outR BS bs i).length = min (64 * i) BS.length := by
  induction i with
  | zero => simp [outR]
  | succ i ih =>
    rw [outR, List.length_append, ih, xorL_length, List.length_drop, sixtyL_length]
    omega

section
variable (Old : Nat → Prop) (w0 : World) (BS : List Int) (bs : Nat → Nat → Int) (τ : Nat)
structure RecvI (M : Nat → Prop) (w : World) (i : Nat) (row : Array Value) : Prop where
  text : w.heap[τ]? = some (.cells row 5 (0, 0))
  size : row.size = BS.length
  flat : ∀ v ∈ row, flatC v = true
  is : row.toList.take (min (64 * i) BS.length) = (outR BS bs i).map (Value.int .u8)
  mine : M τ
  new : ¬ Old τ
  own : ¬ ShS τ
  low : ∀ b, M b → b < w.heap.size
  sh : ∀ b, ShS b → b < w.heap.size
  old : Keeps Old w0 w
  all : ∀ b, Old b → M b
variable {Old w0 BS bs τ}
theorem RecvI.keeps {M : Nat → Prop} {w w1 : World} {i : Nat} {row : Array Value} (h : RecvI Old w0 BS bs τ M w i row) (hk : Keeps M w w1) : RecvI Old w0 BS bs τ M w1 i row :=
  ⟨(hk.heap _ h.mine).trans h.text, h.size, h.flat, h.is, h.mine, h.new, h.own, fun b hb => Nat.lt_of_lt_of_le (h.low b hb) hk.size, fun b hb => Nat.lt_of_lt_of_le (h.sh b hb) hk.size, h.old.trans ⟨fun b hb => hk.heap b (h.all b hb), hk.size, hk.os, hk.output, hk.tape⟩, h.all⟩
theorem RecvI.more {M M' : Nat → Prop} {w : World} {i : Nat} {row : Array Value} (h : RecvI Old w0 BS bs τ M w i row) (hM : ∀ b, M b → M' b) (hl : ∀ b, M' b → b < w.heap.size) : RecvI Old w0 BS bs τ M' w i row :=
  ⟨h.text, h.size, h.flat, h.is, hM _ h.mine, h.new, h.own, hl, h.sh, h.old, fun b hb => hM b (h.all b hb)⟩
end

section
variable (Old : Nat → Prop) (w0 : World) (BS : List Int) (bs : Nat → Nat → Int)
def FinR (kv nv : Value) (ct : Int) (bp : Option Addr) (bn bc : Nat) (a1 a2 : Int) (m : Nat) (a4 : Int) (X : Array Value) (β : Nat) (ch τ : Nat) (cs : List Frame) (M : Nat → Prop) (g : Goroutine) (w : World) : Prop := ∃ row, RecvI Old w0 BS bs τ M w m row ∧ ∃ u14 u54 u55 u56 u57 u58 u59 u60 u61 u62 u63 : Value, g = G (recvR kv nv ct bp bn bc a1 a2 m a4 X β ch τ (min (64 * m) bn) u14 (.tuple #[.slice none 0 0, .bool false]) u54 u55 u56 u57 u58 u59 u60 u61 u62 u63 [1]) cs
variable {Old w0 BS bs}
theorem rcv_R (kv nv : Value) (ct : Int) (bp : Option Addr) (bn bc : Nat) (a1 a2 : Int) (m : Nat) (a4 : Int) (X : Array Value) (β : Nat) (ch τ : Nat) (cs : List Frame) (b1 o1 : Nat) (hbp : 0 < bn → bp = some ⟨b1, o1, none⟩) (hOld : Old b1) (hBS : BS.length = bn) (hb1 : bn ≤ 1048576) (hbc : bn ≤ bc) (hcell : ∀ j u, BS[j]? = some u → w0.cell? ⟨b1, o1 + j, none⟩ = some (.int .u8 u)) (hm : ∀ i, i < m → 64 * i < bn) (Fin : (Nat → Prop) → Goroutine → World → Prop) (hFin : ∀ M g w, FinR Old w0 BS bs kv nv ct bp bn bc a1 a2 m a4 X β ch τ cs M g w → Fin M g w) (n : Nat) :
    ∀ (i : Nat), n + i = m → ∀ (M : Nat → Prop) (w : World) (row : Array Value), RecvI Old w0 BS bs τ M w i row → ∀ u14 u53 u54 u55 u56 u57 u58 u59 u60 u61 u62 u63, Co Tryd.prog true ShS (RStop Tryd.prog ShS ch (MsgK bs) Fin n i) M (G (recvR kv nv ct bp bn bc a1 a2 m a4 X β ch τ (min (64 * i) bn) u14 u53 u54 u55 u56 u57 u58 u59 u60 u61 u62 u63 [0, 1]) cs) w := by
  induction n with
  | zero =>
    intro i hi M w row H u14 u53 u54 u55 u56 u57 u58 u59 u60 u61 u62 u63
    obtain rfl : i = m := by omega
    refine .stop fun w1 hk => ⟨_, _, .slice none 0 0, rfl, recv_R .., fun w2 hk2 => ?_, fun _ _ _ _ _ _ => trivial⟩
    rw [recvd_R]
    exact hFin _ _ _ ⟨row, (H.keeps hk).keeps hk2, _, _, _, _, _, _, _, _, _, _, _, rfl⟩
  | succ n ih =>
    intro i hi M w row H u14 u53 u54 u55 u56 u57 u58 u59 u60 u61 u62 u63
    have hib := hm i (by omega)
    obtain rfl := hbp (by omega)
    refine .stop fun w1 hk => ⟨_, _, .slice none 0 0, rfl, recv_R .., fun w2 hk2 => trivial, fun v N w2 hk2 hN hMsg => ?_⟩
    rw [recvd_R]
    obtain ⟨b2, hNb, o2, cc, rfl, h60⟩ := hMsg
    have H2 := (H.keeps hk).keeps hk2
    have hlow2 : ∀ b, M b ∨ N b → b < w2.heap.size := fun b hb => hb.elim (H2.low b) fun h => (hN b h).1
    have H3 := H2.more (M' := fun b => M b ∨ N b) (fun b hb => .inl hb) hlow2
    have htn : min (64 * i) bn = 64 * i := by omega
    have hadd : (⟨b1, o1, none⟩ : Addr).add (min (64 * i) bn) = ⟨b1, o1 + 64 * i, none⟩ := by
      rw [htn]
      unfold Addr.add
      split
      · rename_i h0
        rw [h0]
        rfl
      · rfl
    have hdl : (BS.drop (64 * i)).length = bn - 64 * i := by rw [List.length_drop, hBS]
    refine got_R kv nv ct ⟨b1, o1, none⟩ bn bc a1 a2 m a4 X β ch τ (min (64 * i) bn) u14 u54 u55 u56 u57 u58 u59 u60 u61 u62 u63 (.slice (some ⟨b2, o2, none⟩) 64 cc) cs (by omega) hbc ?_
    rw [hadd]
    have hx := xor_co (w := w2) (Sh := ShS) (M := fun b => M b ∨ N b) (Stop := RStop Tryd.prog ShS ch (MsgK bs) Fin n (i + 1)) b1 (o1 + 64 * i) (bc - min (64 * i) bn) b2 o2 cc (BS.drop (64 * i)) (sixtyL (bs i)) (xorR kv nv ct ⟨b1, o1, none⟩ bn bc a1 a2 m a4 X β ch τ (min (64 * i) bn) (.slice (some ⟨b2, o2, none⟩) 64 cc) u62 u63 [6, 7, 8]) cs (by omega) (by rw [sixtyL_length]; omega) (by omega) (by rw [sixtyL_length]; omega) (fun j u hu => ?_) (fun j u hu => ?_) (.inl (H2.all _ hOld)) (.inr hNb) hlow2 H2.sh ?_
    · rw [hdl, sixtyL_length, show bn - 64 * i = bn - min (64 * i) bn by omega] at hx
      exact hx
    · rw [List.getElem?_drop] at hu
      have := hcell _ u hu
      rw [← cell_keeps H2.old (a := ⟨b1, o1 + (64 * i + j), none⟩) hOld] at this
      rw [← this, Nat.add_assoc]
    · obtain ⟨hj, rfl⟩ := sixtyL_at hu
      exact h60 j hj
    · intro w3 M' γ c' hM' hlow' hold' hk3 hγ hMγ hcells
      rw [xored_R]
      have H4 := H3.keeps hk3
      have H5 := H4.more hM' hlow'
      have hlen : (xorL (BS.drop (64 * i)) (sixtyL (bs i))).length = min (BS.drop (64 * i)).length (sixtyL (bs i)).length := xorL_length ..
      have hne : τ ≠ γ := fun e => by
        have := H3.low τ H3.mine
        omega
      refine put_R kv nv ct ⟨b1, o1, none⟩ bn bc a1 a2 m a4 X β ch τ (min (64 * i) bn) γ 0 _ c' _ u63 cs row (xorL (BS.drop (64 * i)) (sixtyL (bs i))) H5.text (by rw [H5.size, hBS]) H5.flat hlen (by rw [hdl, sixtyL_length]; omega) hcells hne H5.mine hMγ H5.own (by rw [hdl, sixtyL_length]; omega) H5.sh H5.low fun w4 row' hk4 hsz hflat htake => ?_
      have H6 := H5.keeps hk4
      have e1 : min (64 * i) bn + min (BS.drop (64 * i)).length (sixtyL (bs i)).length = min (64 * (i + 1)) bn := by rw [hdl, sixtyL_length]; omega
      rw [e1] at htake ⊢
      refine ih (i + 1) (by omega) M' _ row' ⟨?_, by rw [hsz, hBS], hflat, ?_, H6.mine, H6.new, H6.own, fun b hb => ?_, fun b hb => ?_, H6.old.trans ⟨fun b hb => setRow_other _ _ _ _ fun e => H6.new (e ▸ hb), by simp [World.setRow], rfl, rfl, rfl⟩, H6.all⟩
      · exact setRow_heap _ _ _ _ _ _ H6.text
      · rw [hBS, htake, outR, List.map_append, ← H6.is, hBS]
      · have := H6.low b hb
        simpa [World.setRow] using this
      · have := H6.sh b hb
        simpa [World.setRow] using this
end

end Go.Proofs.YthjapmdikbmmkaaDoor

namespace Go.Proofs.YthjapmdikbmmkaaDoor
open Go Go.Conc
set_option maxRecDepth 100000

structure Stays (n : Nat) (w w1 : World) : Prop where
  heap : ∀ b, b < n → w1.heap[b]? = w.heap[b]?
  size : w.heap.size ≤ w1.heap.size
  os : w1.os = w.os
  output : w1.output = w.output
  tape : w1.tape = w.tape
theorem Stays.refl (n : Nat) (w : World) : Stays n w w := ⟨fun _ _ => rfl, Nat.le_refl _, rfl, rfl, rfl⟩
theorem Stays.trans {n m : Nat} {w w1 w2 : World} (h : Stays n w w1) (k : Stays m w1 w2) (hm : n ≤ m) : Stays n w w2 := ⟨fun b hb => (k.heap b (Nat.lt_of_lt_of_le hb hm)).trans (h.heap b hb), Nat.le_trans h.size k.size, k.os.trans h.os, k.output.trans h.output, k.tape.trans h.tape⟩
theorem Keeps.stays {M : Nat → Prop} {w w1 : World} {n : Nat} (h : Keeps M w w1) (hM : ∀ b, b < n → M b) : Stays n w w1 := ⟨fun b hb => h.heap b (hM b hb), h.size, h.os, h.output, h.tape⟩
theorem RelW.kept {L : Nat} {Sh : Nat → Prop} {ρ : Ren} {w w' w1 : World} (h : RelW L Sh ρ w w') (hk : ∀ b b', ρ b b' → w1.heap[b']? = w'.heap[b']?) : RelW 0 Sh ρ w w1 := by
  refine ⟨fun b b' hb => ?_, h.fn, h.inj, h.low0, fun i q hi => absurd hi (Nat.not_lt_zero _), h.shared⟩
  obtain ⟨o, o', h1, h2, ho⟩ := h.obj b b' hb
  exact ⟨o, o', h1, (hk b b' hb).trans h2, ho⟩

section
variable {Pg P : Program} [Kin Pg P] {Gl Gl0 : Globs} {Al Alg : Nat → Bool} {Sh : Nat → Prop} {d0 : Nat}
structure Still (ρ : Ren) (Sh : Nat → Prop) (w w1 : World) : Prop where
  heap : ∀ b, b < w.heap.size → (∀ c, ρ c b → Sh c) → w1.heap[b]? = w.heap[b]?
  size : w.heap.size ≤ w1.heap.size
  os : w1.os = w.os
  output : w1.output = w.output
  tape : w1.tape = w.tape
def Lives (Pg : Program) (Gl0 : Globs) (Alg : Nat → Bool) (Sh : Nat → Prop) (f : FuncId) (x : Array Value) (wg : World) : Prop := ∃ st n sE, (∀ f ∈ st, f.mode = .run ∧ f.defers = [] ∧ Alg f.fn = true) ∧ runN Pg n (mach Pg ⟨Frame.enter Pg f x .normal, st, wg⟩) = .next (mach Pg sE) ∧ Don sE ∧ Part Pg Gl0 Alg Sh sE
def DoorIs (Pg P : Program) (Gl Gl0 : Globs) (Al Alg : Nat → Bool) (Sh : Nat → Prop) (n0' : Nat) (W' : World) : Prop := ∀ (f : FuncId) (x x' : Array Value) (ρ : Ren) (wg w' : World), Gl.d f x.size = true → RelR ρ x x' → Sit 0 P Gl Al Sh ρ wg w' → Stays n0' W' w' → n0' ≤ w'.heap.size → Lives Pg Gl0 Alg Sh f x wg →
  ∃ Post : Value → World → Prop, (∀ τ, Calls Pg f x (World.ret wg τ) fun e w1 => ∃ v, e = .returned v ∧ Post v w1) ∧
    ∀ (c : Frame) (cs : List Frame), Bes P (fun g1 w1 => ∃ v', g1 = G (c.finish v') cs ∧ Still ρ Sh w' w1 ∧ ∀ v w1g, Post v w1g → ∃ ρ1 : Ren, ρ.le ρ1 ∧ RelV ρ1 v v' ∧ Sit 0 P Gl Al Sh ρ1 w1g w1 ∧ (∀ b b', ρ1 b b' → ρ b b' ∨ (wg.heap.size ≤ b ∧ w'.heap.size ≤ b')) ∧ wg.heap.size ≤ w1g.heap.size) (G (Frame.enter P f x' .normal) (c :: cs)) w'
structure Along (P : Program) (Gl : Globs) (Al : Nat → Bool) (Sh : Nat → Prop) (ρ0 : Ren) (n0 n0' : Nat) (W' : World) (s : St) (ρ : Ren) (fr' : Frame) (st' : List Frame) (w' : World) : Prop where
  sit : Sit 0 P Gl Al Sh ρ s.w w'
  fr : RelF P Gl Al ρ s.fr fr'
  st : RelFs P Gl Al ρ s.st st'
  le0 : ρ0.le ρ
  pair : ∀ b b', ρ b b' → ρ0 b b' ∨ (n0 ≤ b ∧ n0' ≤ b')
  low : n0 ≤ s.w.heap.size
  low' : n0' ≤ w'.heap.size
  stays : Stays n0' W' w'
def NextIs (Pg P : Program) (Gl : Globs) (Al : Nat → Bool) (Sh : Nat → Prop) (d0 : Nat) (ρ0 : Ren) (n0 n0' : Nat) (W' : World) (s : St) (fr' : Frame) (st' : List Frame) (g : Goroutine) (w1 : World) : Prop :=
  (∃ s1 ρ1 fr1' st1', Nx Pg d0 s1 s ∧ g = G fr1' st1' ∧ Along P Gl Al Sh ρ0 n0 n0' W' s1 ρ1 fr1' st1' w1) ∨
  ∃ f x x' ρ1 wg1, Gl.d f x.size = true ∧ Nx Pg d0 ⟨Frame.enter Pg f x .normal, s.fr :: s.st, wg1⟩ s ∧ g = G (Frame.enter P f x' .normal) (fr' :: st') ∧ RelR ρ1 x x' ∧ s.fr.mode = .run ∧ (∃ ops i rest k, s.fr.todo = .inRegion ops (i :: rest) :: k) ∧ Along P Gl Al Sh ρ0 n0 n0' W' ⟨s.fr, s.st, wg1⟩ ρ1 fr' st' w1
end

end Go.Proofs.YthjapmdikbmmkaaDoor

namespace Go.Proofs.YthjapmdikbmmkaaDoor
open Go Go.Conc

section
variable {Sh : Nat → Prop} {Stop : (Nat → Prop) → Goroutine → World → Prop} {M : Nat → Prop} {w : World}
set_option maxRecDepth 100000 in
theorem leave_R (tmps : Array Value) (todo : List Item) (v : Value) (c : Frame) (cs : List Frame) (h8 : tmps.getD 8 undef = v) (next : Co Tryd.prog true Sh Stop M (G (c.finish v) cs) w) :
    Co Tryd.prog true Sh Stop M (G { bR.at ⟨tmps, []⟩ todo with mode := .returning } (c :: cs)) w := by
  refine .ctl rfl (fun w1 => ?_) next
  exact stepG_leave rfl rfl Tryd.func26 (by rw [← h8]; simp [results, Tryd.f26]) (by simp [results, Tryd.f26])
end

theorem tail_bes (kv nv : Value) (ct : Int) (bp : Option Addr) (bn bc : Nat) (a1 a2 : Int) (m : Nat) (a4 : Int) (X : Array Value) (β : Nat) (c : Frame) (cs : List Frame) (b1 o1 : Nat) (BS : List Int) (bs : Nat → Nat → Int) (C : Array Value) (e : TypeId) (w : World) (hm : (m : Int) ≤ 1000000) (hX : ∀ v ∈ X, flatC v = true) (h16 : X.size = 16) (hβ : w.heap[β]? = some (.cells X 53 (0, 0))) (hSβ : ¬ ShS β)
    (hT : TableIn C e w) (hC : ∀ v ∈ C, flatC v = true) (hB : BlockIs X ct m C e bs) (hc : ∀ i : Nat, i < m → IntKind.i64.wrap (ct + (i : Int)) = ct + (i : Int)) (hm1 : ∀ i : Nat, i < m → IntKind.i64.wrap ((i : Int) + 1) = (i : Int) + 1)
    (hbp : 0 < bn → bp = some ⟨b1, o1, none⟩) (hb1 : b1 < w.heap.size) (hBS : BS.length = bn) (hbn : bn ≤ 1048576) (hbc : bn ≤ bc) (hcell : ∀ j u, BS[j]? = some u → w.cell? ⟨b1, o1 + j, none⟩ = some (.int .u8 u)) (hlo : ∀ i, i < m → 64 * i < bn) (hhi : bn ≤ 64 * m) :
    Bes Tryd.prog (fun g1 w1 => ∃ τ, g1 = G (c.finish (.slice (some ⟨τ, 0, none⟩) bn bn)) cs ∧ w.heap.size ≤ τ ∧ Keeps (fun b => b < w.heap.size) w w1 ∧ w1.heap[τ]? = some (.cells ((outR BS bs m).map (Value.int .u8)).toArray 5 (0, 0)))
      (G (goodR kv nv ct bp bn bc a1 a2 (m : Int) a4 X β) (c :: cs)) w := by
  have hβlt : β < w.heap.size := (Array.getElem?_eq_some_iff.1 hβ).1
  have htab : 0 < w.heap.size := by
    obtain ⟨lo, hi, h, _⟩ := hT
    exact (Array.getElem?_eq_some_iff.1 h).1
  have hSw : ∀ b, ShS b → b < w.heap.size := fun b hb => by rw [(shS_iff b).1 hb]; exact htab
  -- to the go statement
  have h1 : Co Tryd.prog true ShS (fun _ g w2 => ∃ ch, g = G (goR kv nv ct bp bn bc a1 a2 m a4 X β ch [4]) (c :: cs) ∧ Keeps (fun b => b < w.heap.size) w w2 ∧ w.heap.size ≤ ch ∧ ch < w2.heap.size ∧ w2.heap[ch]? = some (.chan m #[] false 0 0 false)) (fun b => b < w.heap.size) (G (goodR kv nv ct bp bn bc a1 a2 (m : Int) a4 X β) (c :: cs)) w := by
    refine chan_R kv nv ct bp bn bc a1 a2 m a4 X β (c :: cs) hm hX h16 hβ hβlt hSβ (fun b hb => hb) hSw fun ch w1 hk h2 h3 h4 => .stop fun w2 hk2 => ⟨ch, rfl, hk.trans ⟨fun b hb => hk2.heap b (.inl hb), hk2.size, hk2.os, hk2.output, hk2.tape⟩, h2, Nat.lt_of_lt_of_le h3 hk2.size, (hk2.heap ch (.inr rfl)).trans h4⟩
  refine (Bes.of_co h1 (fun b hb => hb) fun _ g w2 h _ => h).bind fun g w2 ⟨ch, hg, hk2, hch, hch2, hchan⟩ => ?_
  subst hg
  -- the two beside each other
  have hM0 : ∀ b, b < w2.heap.size ∧ b ≠ ch → b < w2.heap.size ∧ b ≠ ch := fun b hb => hb
  have hMk : ∀ b, ShS b → b < w2.heap.size ∧ b ≠ ch := fun b hb => by
    have := hSw b hb
    have := hk2.size
    omega
  have hold : ∀ b, b < w.heap.size → b < w2.heap.size ∧ b ≠ ch := fun b hb => by
    have := hk2.size
    omega
  have hR : Co Tryd.prog true ShS (RStop Tryd.prog ShS ch (MsgK bs) (fun M g w' => ∃ τ, w.heap.size ≤ τ ∧ FinR (fun b => b < w.heap.size) w BS bs kv nv ct bp bn bc a1 a2 m a4 X β ch τ (c :: cs) M g w') m 0) (fun b => b < w2.heap.size ∧ b ≠ ch) (G (goR kv nv ct bp bn bc a1 a2 m a4 X β ch []) (c :: cs)) w2 := by
    refine make_R kv nv ct bp bn bc a1 a2 m a4 X β ch (c :: cs) (by omega) (fun b hb => hb.1) (fun b hb => (hMk b hb).1) fun w3 row hk3 hrow hflat u14 u53 u54 u55 u56 u57 u58 u59 u60 u61 u62 u63 => ?_
    have hsz := hk3.size
    have hsz2 := hk2.size
    have hpush : ∀ b, b < w3.heap.size → (w3.heap.push (.cells row 5))[b]? = w3.heap[b]? := fun b hb => by rw [Array.getElem?_push_lt hb, Array.getElem?_eq_getElem hb]
    have h := rcv_R (Old := fun b => b < w.heap.size) (w0 := w) (BS := BS) (bs := bs) kv nv ct bp bn bc a1 a2 m a4 X β ch w3.heap.size (c :: cs) b1 o1 hbp hb1 hBS hbn hbc hcell hlo (fun M g w' => ∃ τ, w.heap.size ≤ τ ∧ FinR (fun b => b < w.heap.size) w BS bs kv nv ct bp bn bc a1 a2 m a4 X β ch τ (c :: cs) M g w') (fun M g w' h => ⟨w3.heap.size, by omega, h⟩) m 0 rfl (fun b => (b < w2.heap.size ∧ b ≠ ch) ∨ b = w3.heap.size) { w3 with heap := w3.heap.push (.cells row 5) } row ⟨by simp, by rw [hrow, hBS], hflat, by simp [outR], .inr rfl, by show ¬ w3.heap.size < w.heap.size; omega, fun hs => ?_, fun b hb => ?_, fun b hb => ?_, hk2.trans ⟨fun b hb => ?_, by simp only [Array.size_push]; omega, hk3.os, hk3.output, hk3.tape⟩, fun b hb => .inl (hold b hb)⟩ u14 u53 u54 u55 u56 u57 u58 u59 u60 u61 u62 u63
    · rw [show min (64 * 0) bn = 0 by omega] at h
      exact h
    · have := (hMk _ hs).1
      omega
    · simp only [Array.size_push]
      rcases hb with hb | hb
      · have := hb.1
        omega
      · omega
    · have := (hMk _ hb).1
      simp only [Array.size_push]
      omega
    · have := hold b hb
      show (w3.heap.push _)[b]? = _
      rw [hpush b (by omega), hk3.heap b this]
  have hS : Co Tryd.prog false ShS (SStop Tryd.prog ShS ch (MsgK bs) m 0) ShS (born Tryd.prog (callK X ch ct m)) w2 := by
    refine entry_K X ch ct m (fun b hb => (hMk b hb).1) fun w3 hk3 u5 u6 u7 u8 u9 u12 u13 u14 u15 u16 u17 u18 u19 u20 => ?_
    have hn : ¬ ShS w3.heap.size := fun h => by
      have := (hMk _ h).1
      have := hk3.size
      omega
    refine snd_K X ch ct m w3.heap.size C e bs hX h16 hC hc hm1 hB m 0 rfl _ _ ⟨⟨(0, 0), by simp⟩, .inr rfl, hn, fun b hb => .inl hb, ?_, fun b hb => ?_⟩ u5 u6 u7 u8 u9 u12 u13 u14 u15 u16 u17 u18 u19 u20
    · obtain ⟨lo, hi, h, hl⟩ := hT
      have e1 : w3.heap[0]? = some (.cells C e (lo, hi)) := (hk3.heap _ ((shS_iff _).2 rfl)).trans ((hk2.heap _ htab).trans h)
      refine ⟨lo, hi, ?_, hl⟩
      have hlt := (Array.getElem?_eq_some_iff.1 e1).1
      show (w3.heap.push _)[_]? = _
      rw [Array.getElem?_push_lt hlt, ← Array.getElem?_eq_getElem hlt]
      exact e1
    · have := hk3.size
      show b < (w3.heap.push _).size
      rw [Array.size_push]
      rcases hb with hb | hb
      · have := (hMk b hb).1
        omega
      · omega
  intro gs sl t q h0 hL hP
  refine (go_beside (msgK_keeps bs) rfl (Nat.le_refl m) (fun b _ hb => hb) (go_R kv nv ct bp bn bc a1 a2 m a4 X β ch (c :: cs)) _ gs w2 sl t q rfl h0 hL hP hchan hM0 hMk hR hS).then fun gs1 w3 sl3 t3 ⟨_, a, M0, q1, e0, ⟨τ, hτ, row, H, hg⟩, hL1, hP1⟩ => ?_
  obtain ⟨u14, u54, u55, u56, u57, u58, u59, u60, u61, u62, u63, rfl⟩ := hg
  -- behind the close
  have hrow : row = ((outR BS bs m).map (Value.int .u8)).toArray := by
    have h1 := H.is
    have h2 := H.size
    rw [List.take_of_length_le (by rw [Array.length_toList]; omega)] at h1
    rw [← h1, Array.toArray_toList]
  subst hrow
  refine Bes.of_co (Stop := fun _ g1 w1 => ∃ τ, g1 = G (c.finish (.slice (some ⟨τ, 0, none⟩) bn bn)) cs ∧ w.heap.size ≤ τ ∧ Keeps (fun b => b < w.heap.size) w w1 ∧ w1.heap[τ]? = some (.cells ((outR BS bs m).map (Value.int .u8)).toArray 5 (0, 0))) (Sh := ShS) (M := M0) (shut_R kv nv ct bp bn bc a1 a2 m a4 X β ch τ (min (64 * m) bn) u14 u54 u55 u56 u57 u58 u59 u60 u61 u62 u63 (c :: cs) fun tmps todo h8 => ?_) H.low (fun _ g w' h _ => h) gs1 sl3 t3 q1 e0 hL1 hP1
  rw [show min (64 * m) bn = bn by omega] at h8
  refine leave_R tmps todo _ c cs h8 (.stop fun w4 hk4 => ?_)
  have H4 := H.keeps hk4
  exact ⟨τ, rfl, hτ, H4.old, H4.text⟩

end Go.Proofs.YthjapmdikbmmkaaDoor

namespace Go.Proofs.YthjapmdikbmmkaaDoor
open Go Go.Conc

section
variable {P : Program} {main : Bool} {Sh : Nat → Prop} {Stop : (Nat → Prop) → Goroutine → World → Prop} {M N : Nat → Prop} {w : World} {n : Nat} {A : Nat → Prop}
theorem Co.leaves {b : Frame} {a : Act} {todo : List Item} {c : Frame} {cs : List Frame} {fn : Func} {v : Value} (hn : b.kind = .normal) (hd : a.defers = []) (hf : P.funcs[b.fn]? = some fn)
    (hN : ∀ b, N b → M b) (sim : SimS P P RelV (idr N n A) (results fn a.tmps) (results fn a.tmps)) (hm : ∀ w1, Keeps M w w1 → Mine Sh N n A w1) (hr : ∀ w1, Keeps M w w1 → (results fn a.tmps).run P w1 = .ok v w1)
    (h : Co P main Sh Stop M (G (c.finish v) cs) w) : Co P main Sh Stop M (G { b.at a todo with mode := .returning } (c :: cs)) w := by
  have key : ∀ w1, Keeps M w w1 → ∃ es, (results fn a.tmps).runT P w1 #[] = (.ok v w1, es) ∧ ∀ e ∈ es, EvM Sh M e := fun w1 hk1 => by
    have M1 := hm w1 hk1
    cases hrt : (results fn a.tmps).runT P w1 #[] with
    | mk r es0 =>
      have hr1 : r = .ok v w1 := by rw [← hr w1 hk1, ← Sem.runT_fst P _ w1 #[], hrt]
      subst hr1
      obtain ⟨ρ1, v', w1', more, r1, _, r3, r4, r5⟩ := sim.runs #[] (M1.rel w1.drawn) M1.sh M1.big hrt (Nat.le_refl _)
      rw [hrt] at r1
      simp only [Prod.mk.injEq, Result.ok.injEq, Array.empty_append] at r1
      obtain ⟨⟨_, rfl⟩, rfl⟩ := r1
      refine ⟨_, rfl, fun e he => ?_⟩
      have hpair : ∀ b b', ρ1 b b' → b = b' ∧ N b := fun b b' hb => by
        rcases r4.new b b' hb with x | ⟨j, x, _⟩
        · exact x
        · exact absurd (r3.lt hb).1 (by omega)
      rcases r5 e he with ⟨ad, c, h1, h2, h3, h4⟩ | ⟨r, c, h1, h2, h3, h4⟩ | h1
      · obtain ⟨rfl, hmc⟩ := hpair _ _ h3
        exact .inl ⟨ad, h1, h2, hN _ hmc, h4⟩
      · obtain ⟨rfl, hmc⟩ := hpair _ _ h4
        exact .inr (.inl ⟨_, h1, h2, h3, hN _ hmc⟩)
      · exact .inr (.inr h1)
  refine .quiet rfl (fun w1 hk1 => ?_) h
  obtain ⟨es, h1, h2⟩ := key w1 hk1
  refine ⟨seen P b.fn es, ?_, fun e he => h2 e (seen_sub _ _ he)⟩
  simp only [stepG, G, Frame.at, unwind, hd, hf, h1, GStep.after, doReturn, hn, Array.append_empty]
end

def bN : Frame := { (default : Frame) with fn := 44, kind := .normal }
noncomputable def bodyN : Code := Tryd.f44.body.getD .skip
theorem enter_N (kv nv : Value) : Frame.enter Tryd.prog 44 #[kv, nv] .normal = bN.at ⟨#[kv, nv] ++ Array.replicate 40 undef, []⟩ [.code bodyN] := by
  simp [Frame.enter, Frame.at, bN, bodyN, Tryd.func44, Tryd.f44]
theorem results_N (tmps : Array Value) (α : Nat) (h4 : tmps.getD 4 undef = .pointer (some ⟨α, 0, none⟩)) (h5 : tmps.getD 5 undef = .bool false) : results Tryd.f44 tmps = (do let v ← loadVar 53 ⟨α, 0, none⟩; pure (.tuple #[v, .bool false])) := by
  unfold results
  have e : Tryd.f44.results = #[.cell 4 53, .tmp 5] := rfl
  rw [e, Array.mapM_eq_mapM_toList]
  rw [Array.getD_eq_getD_getElem?] at h4 h5
  simp [h4, h5, asAddr]
section
variable {Sh : Nat → Prop} {Stop : (Nat → Prop) → Goroutine → World → Prop} {M : Nat → Prop} {w : World}
set_option maxRecDepth 100000 in
theorem ns1_R (kp : Option Addr) (kn kc : Nat) (nv : Value) (c : Frame) (cs : List Frame) (hk : (kn : Int) ≠ 32) (hM : ∀ b, M b → b < w.heap.size) (hSw : ∀ b, Sh b → b < w.heap.size)
    (next : ∀ w1 M', Keeps M w w1 → (∀ b, M b → M' b) → (∀ b, M' b → M b ∨ w.heap.size ≤ b) → (∀ b, M' b → b < w1.heap.size) → Co Tryd.prog true Sh Stop M' (G (c.finish (.tuple #[.agg (Array.replicate 16 (.int .u32 0)), .bool false])) cs) w1) :
    Co Tryd.prog true Sh Stop M (G (Frame.enter Tryd.prog 44 #[.slice kp kn kc, nv] .normal) (c :: cs)) w := by
  obtain ⟨ti, hti, hzs⟩ := Option.map_eq_some_iff.1 infoS
  simp only [Prod.mk.injEq] at hzs
  obtain ⟨Zr, hZr⟩ : ∃ Z : Array Value, Z = Array.replicate 16 (.int .u32 0) := ⟨_, rfl⟩
  have hZ : ∀ v ∈ Zr, flatC v = true := fun v hv => by rw [hZr] at hv; rw [Array.eq_of_mem_replicate hv]; rfl
  have hZ1 : Zr.all (·.oneCell') = true := by rw [Array.all_eq_true']; intro v hv; rw [hZr] at hv; rw [Array.eq_of_mem_replicate hv]; rfl
  have hZ16 : Zr.size = 16 := by rw [hZr]; simp
  rw [← hZr] at hzs next
  clear hZr
  rw [enter_N]
  simp only [bodyN, Tryd.f44, Option.getD_some]
  walk_nrm
  iterate 2 (first | with_reducible refine Co.ctlG (fun _ => by first | exact stepG_seq | exact stepG_skip | exact stepG_block | exact stepG_loop | exact stepG_inLoop | exact stepG_inBlock | exact stepG_region_end) ?_ | (with_reducible refine Co.ctlG (fun _ => stepG_region) ?_; (try simp only [List.size_toArray]); (try simp only [List.length_cons]); (try simp only [List.length_nil]); (try simp only [Nat.zero_add]); (try simp only [Nat.reduceAdd]); (try simp only [List.range]); (try simp only [List.range.loop])))
  refine Co.allocV rfl rfl (by decide) rfl hti hzs.1 hM fun w1 hk1 => ?_
  walk_nrm
  refine Co.value (v := .bool false) rfl rfl (by decide) (fun _ => by simp [go_sem, execOp, Act.eval]) (fun _ => by simp [go_sem, execOp, Act.eval]) ?_
  walk_nrm
  iterate 3 (first | with_reducible refine Co.ctlG (fun _ => by first | exact stepG_seq | exact stepG_skip | exact stepG_block | exact stepG_loop | exact stepG_inLoop | exact stepG_inBlock | exact stepG_region_end) ?_ | (with_reducible refine Co.ctlG (fun _ => stepG_region) ?_; (try simp only [List.size_toArray]); (try simp only [List.length_cons]); (try simp only [List.length_nil]); (try simp only [Nat.zero_add]); (try simp only [Nat.reduceAdd]); (try simp only [List.range]); (try simp only [List.range.loop])))
  have z1 := hk1.size
  have hM1 : ∀ b, (M b ∨ b = w1.heap.size) → b < (w1.heap.push (.cells Zr 53)).size := fun b hb => by
    simp only [Array.size_push]
    rcases hb with hb | hb
    · have := hM b hb; omega
    · omega
  refine Co.allocV rfl rfl (by decide) rfl hti hzs.1 hM1 fun w2 hk2 => ?_
  walk_nrm
  have z2 := hk2.size
  simp only [Array.size_push] at z2
  have hM2 : ∀ b, ((M b ∨ b = w1.heap.size) ∨ b = w2.heap.size) → b < (w2.heap.push (.cells Zr 53)).size := fun b hb => by
    simp only [Array.size_push]
    rcases hb with hb | hb
    · have := hM1 b hb; simp only [Array.size_push] at this; omega
    · omega
  have hS2 : ∀ b, Sh b → b < (w2.heap.push (.cells Zr 53)).size := fun b hb => by
    have := hSw b hb
    simp only [Array.size_push]
    omega
  have ha1 : (w2.heap.push (.cells Zr 53))[w1.heap.size]? = some (.cells Zr 53 (0, 0)) := by
    rw [Array.getElem?_push_lt (by omega), ← Array.getElem?_eq_getElem (by omega), hk2.heap _ (.inr rfl)]
    show (w1.heap.push _)[w1.heap.size]? = _
    rw [Array.getElem?_push, if_pos rfl]
  have ha2 : (w2.heap.push (.cells Zr 53))[w2.heap.size]? = some (.cells Zr 53 (0, 0)) := by rw [Array.getElem?_push, if_pos rfl]
  have hs1 : ¬ Sh w1.heap.size := fun hs => absurd (hSw _ hs) (by omega)
  have hs2 : ¬ Sh w2.heap.size := fun hs => absurd (hSw _ hs) (by omega)
  iterate 4 (first | with_reducible refine Co.ctlG (fun _ => by first | exact stepG_seq | exact stepG_skip | exact stepG_block | exact stepG_loop | exact stepG_inLoop | exact stepG_inBlock | exact stepG_region_end) ?_ | (with_reducible refine Co.ctlG (fun _ => stepG_region) ?_; (try simp only [List.size_toArray]); (try simp only [List.length_cons]); (try simp only [List.length_nil]); (try simp only [Nat.zero_add]); (try simp only [Nat.reduceAdd]); (try simp only [List.range]); (try simp only [List.range.loop])))
  (refine Co.value rfl rfl (by decide) (fun _ => by simp [execOp, Act.eval]; rfl) (fun _ => by simp [execOp, Act.eval]) ?_; walk_nrm)
  refine Co.value (v := .int .i64 kn) rfl rfl (by decide) (fun _ => by simp [go_sem, execOp, Act.eval, Tryd.underlying22]) (fun _ => by simp [go_sem, execOp, Act.eval]) ?_
  walk_nrm
  refine Co.value (v := .bool true) rfl rfl (by decide) (fun _ => by simp [go_sem, execOp, Act.eval, hk]) (fun _ => by simp [go_sem, execOp, Act.eval]) ?_
  walk_nrm
  (refine Co.value rfl rfl (by decide) (fun _ => by simp [execOp, Act.eval]; rfl) (fun _ => by simp [execOp, Act.eval]) ?_; walk_nrm)
  refine Co.unwanted rfl rfl ?_
  walk_nrm
  refine Co.unwanted rfl rfl ?_
  walk_nrm
  refine Co.unwanted rfl rfl ?_
  walk_nrm
  refine Co.value (v := .bool true) rfl rfl (by decide) (fun _ => by simp [go_sem, execOp, Act.eval]) (fun _ => by simp [go_sem, execOp, Act.eval]) ?_
  walk_nrm
  (first | with_reducible refine Co.ctlG (fun _ => by first | exact stepG_seq | exact stepG_skip | exact stepG_block | exact stepG_loop | exact stepG_inLoop | exact stepG_inBlock | exact stepG_region_end) ?_ | (with_reducible refine Co.ctlG (fun _ => stepG_region) ?_; (try simp only [List.size_toArray]); (try simp only [List.length_cons]); (try simp only [List.length_nil]); (try simp only [Nat.zero_add]); (try simp only [Nat.reduceAdd]); (try simp only [List.range]); (try simp only [List.range.loop])))
  refine Co.ctlG (fun _ => stepG_cond (t := true) rfl) ?_
  simp only [if_true]
  iterate 2 (first | with_reducible refine Co.ctlG (fun _ => by first | exact stepG_seq | exact stepG_skip | exact stepG_block | exact stepG_loop | exact stepG_inLoop | exact stepG_inBlock | exact stepG_region_end) ?_ | (with_reducible refine Co.ctlG (fun _ => stepG_region) ?_; (try simp only [List.size_toArray]); (try simp only [List.length_cons]); (try simp only [List.length_nil]); (try simp only [Nat.zero_add]); (try simp only [Nat.reduceAdd]); (try simp only [List.range]); (try simp only [List.range.loop])))
  refine Co.loadRow (d := .array 16 51) rfl rfl (by decide) rfl rfl ha2 (.inr rfl) hs2 hS2 hZ rfl rfl (by rw [hti]; simpa [hZ16] using hzs.2) ?_
  walk_nrm
  refine Co.storeRow (Z := Zr) (X := Zr) (e := 53) (β := w1.heap.size) rfl rfl (by decide) rfl rfl rfl ha1 (.inl (.inr rfl)) hs1 hS2 hM2 hZ hZ hZ1 rfl (by rw [hti]; simpa [hZ16] using hzs.2) fun w3 hk3 => ?_
  walk_nrm
  refine Co.value (v := .bool false) rfl rfl (by decide) (fun _ => by simp [go_sem, execOp, Act.eval]) (fun _ => by simp [go_sem, execOp, Act.eval]) ?_
  walk_nrm
  (first | with_reducible refine Co.ctlG (fun _ => by first | exact stepG_seq | exact stepG_skip | exact stepG_block | exact stepG_loop | exact stepG_inLoop | exact stepG_inBlock | exact stepG_region_end) ?_ | (with_reducible refine Co.ctlG (fun _ => stepG_region) ?_; (try simp only [List.size_toArray]); (try simp only [List.length_cons]); (try simp only [List.length_nil]); (try simp only [Nat.zero_add]); (try simp only [Nat.reduceAdd]); (try simp only [List.range]); (try simp only [List.range.loop])))
  refine Co.ctlG (fun _ => stepG_ret') ?_
  have z3 := hk3.size
  simp only [Array.size_push] at z3
  have hb1 : (w3.setRow w1.heap.size Zr).heap[w1.heap.size]? = some (.cells Zr 53 (0, 0)) := setRow_heap _ _ _ _ _ _ ((hk3.heap _ (.inl (.inr rfl))).trans ha1)
  have hsz : (w3.setRow w1.heap.size Zr).heap.size = w3.heap.size := by simp [World.setRow]
  refine Co.leaves (N := fun b => b = w1.heap.size) (n := 0) (A := fun _ => False) rfl rfl Tryd.func44 (fun b hb => .inl (.inr hb)) ?_ (fun w4 hk4 => ⟨fun b hb => ?_, fun b hs hb => absurd (hb ▸ hs) hs1, fun b hb => ?_, Nat.zero_le _⟩) (fun w4 hk4 => ?_) (next _ _ ⟨fun b hb => ?_, ?_, ?_, ?_, ?_⟩ (fun b hb => .inl (.inl hb)) (fun b hb => ?_) fun b hb => ?_)
  · rw [results_N _ w1.heap.size rfl rfl]
    refine (sim_loadVar (show RelA (idr (fun b => b = w1.heap.size) 0 fun _ => False) ⟨w1.heap.size, 0, none⟩ ⟨w1.heap.size, 0, none⟩ from ⟨⟨rfl, rfl⟩, rfl, rfl, fun _ => rfl, Nat.zero_le _⟩) 53).bd fun ρ1 v v' _ hv => .pr (.tuple rfl fun i x x' h1 h2 => ?_)
    match i with
    | 0 => cases h1; cases h2; exact hv
    | 1 => cases h1; cases h2; exact .bool false
    | i + 2 => cases h1
  · subst hb
    exact ⟨_, (hk4.heap _ (.inl (.inr rfl))).trans hb1, relO_flatF hZ⟩
  · have := hSw b hb
    have := hk4.size
    omega
  · rw [results_N _ w1.heap.size rfl rfl]
    simp [run_loadVar_row w4 w1.heap.size 53 53 Zr (0, 0) (.array 16 51) ((hk4.heap _ (.inl (.inr rfl))).trans hb1) rfl rfl (by rw [hti]; simpa [hZ16] using hzs.2)]
  · have h0 := hM b hb
    rw [setRow_other _ _ _ _ (by omega), hk3.heap b (.inl (.inl hb))]
    show (w2.heap.push _)[b]? = _
    rw [Array.getElem?_push_lt (by omega), ← Array.getElem?_eq_getElem (by omega), hk2.heap b (.inl hb)]
    show (w1.heap.push _)[b]? = _
    rw [Array.getElem?_push_lt (by omega), ← Array.getElem?_eq_getElem (by omega), hk1.heap b hb]
  · omega
  · exact (hk3.os.trans hk2.os).trans hk1.os
  · exact (hk3.output.trans hk2.output).trans hk1.output
  · exact (hk3.tape.trans hk2.tape).trans hk1.tape
  · rcases hb with (hb | hb) | hb
    · exact .inl hb
    · exact .inr (by omega)
    · exact .inr (by omega)
  · have := hM2 b hb
    simp only [Array.size_push] at this
    omega
set_option maxRecDepth 100000 in
theorem ns2_R (kp np : Option Addr) (kc nn nc : Nat) (c : Frame) (cs : List Frame) (hk : (nn : Int) ≠ 12) (hM : ∀ b, M b → b < w.heap.size) (hSw : ∀ b, Sh b → b < w.heap.size)
    (next : ∀ w1 M', Keeps M w w1 → (∀ b, M b → M' b) → (∀ b, M' b → M b ∨ w.heap.size ≤ b) → (∀ b, M' b → b < w1.heap.size) → Co Tryd.prog true Sh Stop M' (G (c.finish (.tuple #[.agg (Array.replicate 16 (.int .u32 0)), .bool false])) cs) w1) :
    Co Tryd.prog true Sh Stop M (G (Frame.enter Tryd.prog 44 #[.slice kp 32 kc, .slice np nn nc] .normal) (c :: cs)) w := by
  obtain ⟨ti, hti, hzs⟩ := Option.map_eq_some_iff.1 infoS
  simp only [Prod.mk.injEq] at hzs
  obtain ⟨Zr, hZr⟩ : ∃ Z : Array Value, Z = Array.replicate 16 (.int .u32 0) := ⟨_, rfl⟩
  have hZ : ∀ v ∈ Zr, flatC v = true := fun v hv => by rw [hZr] at hv; rw [Array.eq_of_mem_replicate hv]; rfl
  have hZ1 : Zr.all (·.oneCell') = true := by rw [Array.all_eq_true']; intro v hv; rw [hZr] at hv; rw [Array.eq_of_mem_replicate hv]; rfl
  have hZ16 : Zr.size = 16 := by rw [hZr]; simp
  rw [← hZr] at hzs next
  clear hZr
  rw [enter_N]
  simp only [bodyN, Tryd.f44, Option.getD_some]
  walk_nrm
  iterate 2 (first | with_reducible refine Co.ctlG (fun _ => by first | exact stepG_seq | exact stepG_skip | exact stepG_block | exact stepG_loop | exact stepG_inLoop | exact stepG_inBlock | exact stepG_region_end) ?_ | (with_reducible refine Co.ctlG (fun _ => stepG_region) ?_; (try simp only [List.size_toArray]); (try simp only [List.length_cons]); (try simp only [List.length_nil]); (try simp only [Nat.zero_add]); (try simp only [Nat.reduceAdd]); (try simp only [List.range]); (try simp only [List.range.loop])))
  refine Co.allocV rfl rfl (by decide) rfl hti hzs.1 hM fun w1 hk1 => ?_
  walk_nrm
  refine Co.value (v := .bool false) rfl rfl (by decide) (fun _ => by simp [go_sem, execOp, Act.eval]) (fun _ => by simp [go_sem, execOp, Act.eval]) ?_
  walk_nrm
  iterate 3 (first | with_reducible refine Co.ctlG (fun _ => by first | exact stepG_seq | exact stepG_skip | exact stepG_block | exact stepG_loop | exact stepG_inLoop | exact stepG_inBlock | exact stepG_region_end) ?_ | (with_reducible refine Co.ctlG (fun _ => stepG_region) ?_; (try simp only [List.size_toArray]); (try simp only [List.length_cons]); (try simp only [List.length_nil]); (try simp only [Nat.zero_add]); (try simp only [Nat.reduceAdd]); (try simp only [List.range]); (try simp only [List.range.loop])))
  have z1 := hk1.size
  have hM1 : ∀ b, (M b ∨ b = w1.heap.size) → b < (w1.heap.push (.cells Zr 53)).size := fun b hb => by
    simp only [Array.size_push]
    rcases hb with hb | hb
    · have := hM b hb; omega
    · omega
  refine Co.allocV rfl rfl (by decide) rfl hti hzs.1 hM1 fun w2 hk2 => ?_
  walk_nrm
  have z2 := hk2.size
  simp only [Array.size_push] at z2
  have hM2 : ∀ b, ((M b ∨ b = w1.heap.size) ∨ b = w2.heap.size) → b < (w2.heap.push (.cells Zr 53)).size := fun b hb => by
    simp only [Array.size_push]
    rcases hb with hb | hb
    · have := hM1 b hb; simp only [Array.size_push] at this; omega
    · omega
  have hS2 : ∀ b, Sh b → b < (w2.heap.push (.cells Zr 53)).size := fun b hb => by
    have := hSw b hb
    simp only [Array.size_push]
    omega
  have ha1 : (w2.heap.push (.cells Zr 53))[w1.heap.size]? = some (.cells Zr 53 (0, 0)) := by
    rw [Array.getElem?_push_lt (by omega), ← Array.getElem?_eq_getElem (by omega), hk2.heap _ (.inr rfl)]
    show (w1.heap.push _)[w1.heap.size]? = _
    rw [Array.getElem?_push, if_pos rfl]
  have ha2 : (w2.heap.push (.cells Zr 53))[w2.heap.size]? = some (.cells Zr 53 (0, 0)) := by rw [Array.getElem?_push, if_pos rfl]
  have hs1 : ¬ Sh w1.heap.size := fun hs => absurd (hSw _ hs) (by omega)
  have hs2 : ¬ Sh w2.heap.size := fun hs => absurd (hSw _ hs) (by omega)
  iterate 4 (first | with_reducible refine Co.ctlG (fun _ => by first | exact stepG_seq | exact stepG_skip | exact stepG_block | exact stepG_loop | exact stepG_inLoop | exact stepG_inBlock | exact stepG_region_end) ?_ | (with_reducible refine Co.ctlG (fun _ => stepG_region) ?_; (try simp only [List.size_toArray]); (try simp only [List.length_cons]); (try simp only [List.length_nil]); (try simp only [Nat.zero_add]); (try simp only [Nat.reduceAdd]); (try simp only [List.range]); (try simp only [List.range.loop])))
  (refine Co.value rfl rfl (by decide) (fun _ => by simp [execOp, Act.eval]; rfl) (fun _ => by simp [execOp, Act.eval]) ?_; walk_nrm)
  refine Co.value (v := .int .i64 32) rfl rfl (by decide) (fun _ => by simp [go_sem, execOp, Act.eval, Tryd.underlying22]) (fun _ => by simp [go_sem, execOp, Act.eval]) ?_
  walk_nrm
  refine Co.value (v := .bool false) rfl rfl (by decide) (fun _ => by simp [go_sem, execOp, Act.eval]) (fun _ => by simp [go_sem, execOp, Act.eval]) ?_
  walk_nrm
  iterate 2 (refine Co.value rfl rfl (by decide) (fun _ => by simp [execOp, Act.eval]; rfl) (fun _ => by simp [execOp, Act.eval]) ?_; walk_nrm)
  refine Co.value (v := .int .i64 nn) rfl rfl (by decide) (fun _ => by simp [go_sem, execOp, Act.eval, Tryd.underlying22]) (fun _ => by simp [go_sem, execOp, Act.eval]) ?_
  walk_nrm
  refine Co.value (v := .bool true) rfl rfl (by decide) (fun _ => by simp [go_sem, execOp, Act.eval, hk]) (fun _ => by simp [go_sem, execOp, Act.eval]) ?_
  walk_nrm
  refine Co.value (v := .bool true) rfl rfl (by decide) (fun _ => by simp [go_sem, execOp, Act.eval]) (fun _ => by simp [go_sem, execOp, Act.eval]) ?_
  walk_nrm
  (first | with_reducible refine Co.ctlG (fun _ => by first | exact stepG_seq | exact stepG_skip | exact stepG_block | exact stepG_loop | exact stepG_inLoop | exact stepG_inBlock | exact stepG_region_end) ?_ | (with_reducible refine Co.ctlG (fun _ => stepG_region) ?_; (try simp only [List.size_toArray]); (try simp only [List.length_cons]); (try simp only [List.length_nil]); (try simp only [Nat.zero_add]); (try simp only [Nat.reduceAdd]); (try simp only [List.range]); (try simp only [List.range.loop])))
  refine Co.ctlG (fun _ => stepG_cond (t := true) rfl) ?_
  simp only [if_true]
  iterate 2 (first | with_reducible refine Co.ctlG (fun _ => by first | exact stepG_seq | exact stepG_skip | exact stepG_block | exact stepG_loop | exact stepG_inLoop | exact stepG_inBlock | exact stepG_region_end) ?_ | (with_reducible refine Co.ctlG (fun _ => stepG_region) ?_; (try simp only [List.size_toArray]); (try simp only [List.length_cons]); (try simp only [List.length_nil]); (try simp only [Nat.zero_add]); (try simp only [Nat.reduceAdd]); (try simp only [List.range]); (try simp only [List.range.loop])))
  refine Co.loadRow (d := .array 16 51) rfl rfl (by decide) rfl rfl ha2 (.inr rfl) hs2 hS2 hZ rfl rfl (by rw [hti]; simpa [hZ16] using hzs.2) ?_
  walk_nrm
  refine Co.storeRow (Z := Zr) (X := Zr) (e := 53) (β := w1.heap.size) rfl rfl (by decide) rfl rfl rfl ha1 (.inl (.inr rfl)) hs1 hS2 hM2 hZ hZ hZ1 rfl (by rw [hti]; simpa [hZ16] using hzs.2) fun w3 hk3 => ?_
  walk_nrm
  refine Co.value (v := .bool false) rfl rfl (by decide) (fun _ => by simp [go_sem, execOp, Act.eval]) (fun _ => by simp [go_sem, execOp, Act.eval]) ?_
  walk_nrm
  (first | with_reducible refine Co.ctlG (fun _ => by first | exact stepG_seq | exact stepG_skip | exact stepG_block | exact stepG_loop | exact stepG_inLoop | exact stepG_inBlock | exact stepG_region_end) ?_ | (with_reducible refine Co.ctlG (fun _ => stepG_region) ?_; (try simp only [List.size_toArray]); (try simp only [List.length_cons]); (try simp only [List.length_nil]); (try simp only [Nat.zero_add]); (try simp only [Nat.reduceAdd]); (try simp only [List.range]); (try simp only [List.range.loop])))
  refine Co.ctlG (fun _ => stepG_ret') ?_
  have z3 := hk3.size
  simp only [Array.size_push] at z3
  have hb1 : (w3.setRow w1.heap.size Zr).heap[w1.heap.size]? = some (.cells Zr 53 (0, 0)) := setRow_heap _ _ _ _ _ _ ((hk3.heap _ (.inl (.inr rfl))).trans ha1)
  have hsz : (w3.setRow w1.heap.size Zr).heap.size = w3.heap.size := by simp [World.setRow]
  refine Co.leaves (N := fun b => b = w1.heap.size) (n := 0) (A := fun _ => False) rfl rfl Tryd.func44 (fun b hb => .inl (.inr hb)) ?_ (fun w4 hk4 => ⟨fun b hb => ?_, fun b hs hb => absurd (hb ▸ hs) hs1, fun b hb => ?_, Nat.zero_le _⟩) (fun w4 hk4 => ?_) (next _ _ ⟨fun b hb => ?_, ?_, ?_, ?_, ?_⟩ (fun b hb => .inl (.inl hb)) (fun b hb => ?_) fun b hb => ?_)
  · rw [results_N _ w1.heap.size rfl rfl]
    refine (sim_loadVar (show RelA (idr (fun b => b = w1.heap.size) 0 fun _ => False) ⟨w1.heap.size, 0, none⟩ ⟨w1.heap.size, 0, none⟩ from ⟨⟨rfl, rfl⟩, rfl, rfl, fun _ => rfl, Nat.zero_le _⟩) 53).bd fun ρ1 v v' _ hv => .pr (.tuple rfl fun i x x' h1 h2 => ?_)
    match i with
    | 0 => cases h1; cases h2; exact hv
    | 1 => cases h1; cases h2; exact .bool false
    | i + 2 => cases h1
  · subst hb
    exact ⟨_, (hk4.heap _ (.inl (.inr rfl))).trans hb1, relO_flatF hZ⟩
  · have := hSw b hb
    have := hk4.size
    omega
  · rw [results_N _ w1.heap.size rfl rfl]
    simp [run_loadVar_row w4 w1.heap.size 53 53 Zr (0, 0) (.array 16 51) ((hk4.heap _ (.inl (.inr rfl))).trans hb1) rfl rfl (by rw [hti]; simpa [hZ16] using hzs.2)]
  · have h0 := hM b hb
    rw [setRow_other _ _ _ _ (by omega), hk3.heap b (.inl (.inl hb))]
    show (w2.heap.push _)[b]? = _
    rw [Array.getElem?_push_lt (by omega), ← Array.getElem?_eq_getElem (by omega), hk2.heap b (.inl hb)]
    show (w1.heap.push _)[b]? = _
    rw [Array.getElem?_push_lt (by omega), ← Array.getElem?_eq_getElem (by omega), hk1.heap b hb]
  · omega
  · exact (hk3.os.trans hk2.os).trans hk1.os
  · exact (hk3.output.trans hk2.output).trans hk1.output
  · exact (hk3.tape.trans hk2.tape).trans hk1.tape
  · rcases hb with (hb | hb) | hb
    · exact .inl hb
    · exact .inr (by omega)
    · exact .inr (by omega)
  · have := hM2 b hb
    simp only [Array.size_push] at this
    omega
end

end Go.Proofs.YthjapmdikbmmkaaDoor

namespace Go.Proofs.YthjapmdikbmmkaaDoor
open Go Go.Conc
set_option maxRecDepth 100000

section
variable {P : Program} {main : Bool} {b : Frame} {a : Act} {k todo : List Item} {cs : List Frame} {w : World} {ops : Array Oper} {i : Nat} {rest : List Nat} {o : Oper} {f : FuncId} {fn : Func} {cap : Array Value} {ds : List Deferred}
def dval (f : FuncId) (cap : Array Value) : Deferred := { target := .fn (.func f) cap, args := #[] }
theorem stepG_deferV {x : Operand} {ats : Array TypeId} (ho : ops[i]? = some o) (hw : Region.wanted o (yielded ops a.tmps) = true) (hk : b.kind ≠ .early) (hop : o.op = .defer { callee := .value x, args := #[], argTypes := ats }) (hx : a.eval x = .func (.func f) #[] cap) :
    stepG P main (G (b.at a (.inRegion ops (i :: rest) :: k)) cs) w = .go (G (b.at (Act.put ⟨a.tmps, dval f cap :: a.defers⟩ o.dst undef) (.inRegion ops rest :: k)) cs) w #[] := by
  have hr : (execOp a.eval o).run P w = .ok (.defer (dval f cap)) w := by
    unfold execOp
    simp [hop, resolve, Deferred.ofValue, hx, dval]
  have he : (execOp a.eval o).events P w #[] = #[] := by
    unfold execOp
    simp [hop, resolve, Deferred.ofValue, hx]
  have hfin : (b.at ⟨a.tmps, dval f cap :: a.defers⟩ (.inRegion ops (i :: rest) :: k)).finish undef = b.at (Act.put ⟨a.tmps, dval f cap :: a.defers⟩ o.dst undef) (.inRegion ops rest :: k) := by rw [Frame.finish_at, ho]; rfl
  have hk' : (b.kind == CallKind.early) = false := by simpa using hk
  rw [stepG_oper ho hw, ← hfin]
  simp [stepG.apply, hr, he, G, Frame.at, hk', GStep.after, seen_none]
theorem stepG_unwindV {c : Code} {m : FrameMode} (hm : m ≠ .run) (hd : a.defers = dval f cap :: ds) (hf : P.funcs[f]? = some fn) (hname : (fn.name == "runtime.NumGoroutine") = false) (hb : fn.body = some c) :
    stepG P main (G { b.at a todo with mode := m } cs) w =
      .go (G ((baseD f).at { tmps := cap ++ Array.replicate (fn.ntmps - cap.size) undef, defers := [] } [.code c]) ({ b.at ⟨a.tmps, ds⟩ todo with mode := m } :: cs)) w #[] := by
  have h1 : ¬ fn.name = "runtime.NumGoroutine" := by simpa using hname
  rw [← enter_atD cap hf hb]
  cases m with
  | run => exact absurd rfl hm
  | returning => simp [G, stepG, unwind, callDeferred, Frame.at, hd, dval, invoke, callFunc, hf, h1, hb, GStep.after, seen_none]
  | panicking ch => simp [G, stepG, unwind, callDeferred, Frame.at, hd, dval, invoke, callFunc, hf, h1, hb, GStep.after, seen_none]
theorem stepG_recover_none {c : Frame} {ats : Array TypeId} (ho : ops[i]? = some o) (hw : Region.wanted o (yielded ops a.tmps) = true) (hk : b.kind = .deferred) (hop : o.op = .call { callee := .builtin .recover, args := #[], argTypes := ats }) (hc : c.mode = .returning) :
    stepG P main (G (b.at a (.inRegion ops (i :: rest) :: k)) (c :: cs)) w = .go (G (b.at (a.put o.dst .nilIface) (.inRegion ops rest :: k)) (c :: cs)) w #[] := by
  have hr : (execOp a.eval o).run P w = .ok .recover w := by
    unfold execOp
    simp [hop, resolve, invoke, builtin]
  have he : (execOp a.eval o).events P w #[] = #[] := by
    unfold execOp
    simp [hop, resolve, invoke, builtin]
  have hfin : (b.at a (.inRegion ops (i :: rest) :: k)).finish .nilIface = b.at (a.put o.dst .nilIface) (.inRegion ops rest :: k) := by rw [Frame.finish_at, ho]; rfl
  rw [stepG_oper ho hw, ← hfin]
  simp [stepG.apply, hr, he, G, Frame.at, hk, tryRecover, hc, GStep.after, seen_none]
theorem stepG_recover_some {c : Frame} {ats : Array TypeId} {v : Value} {older : List PanicEntry} (ho : ops[i]? = some o) (hw : Region.wanted o (yielded ops a.tmps) = true) (hk : b.kind = .deferred) (hop : o.op = .call { callee := .builtin .recover, args := #[], argTypes := ats }) (hc : c.mode = .panicking ({ v, recovered := false } :: older)) :
    stepG P main (G (b.at a (.inRegion ops (i :: rest) :: k)) (c :: cs)) w = .go (G (b.at (a.put o.dst v) (.inRegion ops rest :: k)) ({ c with mode := .panicking ({ v, recovered := true } :: older) } :: cs)) w #[] := by
  have hr : (execOp a.eval o).run P w = .ok .recover w := by
    unfold execOp
    simp [hop, resolve, invoke, builtin]
  have he : (execOp a.eval o).events P w #[] = #[] := by
    unfold execOp
    simp [hop, resolve, invoke, builtin]
  have hfin : (b.at a (.inRegion ops (i :: rest) :: k)).finish v = b.at (a.put o.dst v) (.inRegion ops rest :: k) := by rw [Frame.finish_at, ho]; rfl
  rw [stepG_oper ho hw, ← hfin]
  simp [stepG.apply, hr, he, G, Frame.at, hk, tryRecover, hc, GStep.after, seen_none]
theorem stepG_leave_recovered {c : Frame} {v u : Value} (hn : b.kind = .deferred) (hd : a.defers = []) (hf : P.funcs[b.fn]? = some fn) (hr : (results fn a.tmps).run P w = .ok v w) (he : (results fn a.tmps).events P w #[] = #[]) (hc : c.mode = .panicking [{ v := u, recovered := true }]) :
    stepG P main (G { b.at a todo with mode := .returning } (c :: cs)) w = .go (G { c with mode := .returning } cs) w := by
  simp [G, stepG, unwind, doReturn, Frame.at, hn, hd, hf, hr, he, hc, seen, GStep.after]
theorem stepG_panics {x : Operand} {t : TypeId} {v : Value} (ho : ops[i]? = some o) (hw : Region.wanted o (yielded ops a.tmps) = true) (hk : b.kind ≠ .early) (hop : o.op = .panic x) (hx : a.eval x = .iface t v) :
    stepG P main (G (b.at a (.inRegion ops (i :: rest) :: k)) cs) w = .go (G { b.at a (.inRegion ops (i :: rest) :: k) with mode := .panicking [{ v := .iface t v, recovered := false }] } cs) w #[] := by
  have hr : (execOp a.eval o).run P w = .halt (.panic (.iface t v)) w := by
    unfold execOp
    simp [hop, hx, Instr.panic, goPanic]
  have he : (execOp a.eval o).events P w #[] = #[] := by
    unfold execOp
    simp [hop, hx, Instr.panic, goPanic]
  have hk' : (b.kind == CallKind.early) = false := by simpa using hk
  rw [stepG_oper ho hw]
  simp [stepG.apply, hr, he, G, Frame.at, Frame.raise, hk', GStep.after, seen_none]
theorem stepG_raises {c : Frame} {ch : List PanicEntry} (hd : a.defers = []) (hf : P.funcs[b.fn]? = some fn) (hc : c.mode = .run) :
    stepG P main (G { b.at a todo with mode := .panicking ch } (c :: cs)) w = .go (G { c with mode := .panicking ch } cs) w #[] := by
  simp [G, stepG, unwind, Frame.at, hd, Frame.catches, hf, Frame.raise, hc]
end

end Go.Proofs.YthjapmdikbmmkaaDoor
