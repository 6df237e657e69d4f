/-
  Stream beside others: from the making of the channel to the return.
  Stream beside others: newStream where a length is wrong, by its own steps.
  What slices.Grow of nil and slices.Concat of slices of ints do: a row of the call's own, empty with room; the ints of all, one behind the other. Conditions: at least one int, and at most 2^30.
-/
import Derived.Test.YtepbidaoloplbaaDoorPars19
import Derived.Test.YtepbidaoloplbaaDoorPars08
import Derived.Test.YtepbidaoloplbaaDoorPars14
namespace Go.Proofs.YtepbidaoloplbaaDoor
open Go Go.Conc

section
variable {Sh : Nat → Prop} {Stop : (Nat → Prop) → Goroutine → World → Prop} {M : Nat → Prop} {w : World}
set_option maxRecDepth 100000 in
theorem leave_R (tmps : Array Value) (todo : List Item) (v : Value) (c : Frame) (cs : List Frame) (h8 : tmps.getD 8 undef = v) (next : Co Tryd.prog true Sh Stop M (G (c.finish v) cs) w) :
    Co Tryd.prog true Sh Stop M (G { bR.at ⟨tmps, []⟩ todo with mode := .returning } (c :: cs)) w := by
  refine .ctl rfl (fun w1 => ?_) next
  exact stepG_leave rfl rfl Tryd.func8 (by rw [← h8]; simp [results, Tryd.f8]) (by simp [results, Tryd.f8])
end

theorem tail_bes (kv nv : Value) (ct : Int) (bp : Option Addr) (bn bc : Nat) (a1 a2 : Int) (m : Nat) (a4 : Int) (X : Array Value) (β : Nat) (c : Frame) (cs : List Frame) (b1 o1 : Nat) (BS : List Int) (bs : Nat → Nat → Int) (C : Array Value) (e : TypeId) (w : World) (hm : (m : Int) ≤ 1000000) (hX : ∀ v ∈ X, flatC v = true) (h16 : X.size = 16) (hβ : w.heap[β]? = some (.cells X 48 (0, 0))) (hSβ : ¬ ShS β)
    (hT : TableIn C e w) (hC : ∀ v ∈ C, flatC v = true) (hB : BlockIs X ct m C e bs) (hc : ∀ i : Nat, i < m → IntKind.i64.wrap (ct + (i : Int)) = ct + (i : Int)) (hm1 : ∀ i : Nat, i < m → IntKind.i64.wrap ((i : Int) + 1) = (i : Int) + 1)
    (hbp : 0 < bn → bp = some ⟨b1, o1, none⟩) (hb1 : b1 < w.heap.size) (hBS : BS.length = bn) (hbn : bn ≤ 1048576) (hbc : bn ≤ bc) (hcell : ∀ j u, BS[j]? = some u → w.cell? ⟨b1, o1 + j, none⟩ = some (.int .u8 u)) (hlo : ∀ i, i < m → 64 * i < bn) (hhi : bn ≤ 64 * m) :
    Bes Tryd.prog (fun g1 w1 => ∃ τ, g1 = G (c.finish (.slice (some ⟨τ, 0, none⟩) bn bn)) cs ∧ w.heap.size ≤ τ ∧ Keeps (fun b => b < w.heap.size) w w1 ∧ w1.heap[τ]? = some (.cells ((outR BS bs m).map (Value.int .u8)).toArray 5 (0, 0)))
      (G (goodR kv nv ct bp bn bc a1 a2 (m : Int) a4 X β) (c :: cs)) w := by
  have hβlt : β < w.heap.size := (Array.getElem?_eq_some_iff.1 hβ).1
  have htab : 0 < w.heap.size := by
    obtain ⟨lo, hi, h, _⟩ := hT
    exact (Array.getElem?_eq_some_iff.1 h).1
  have hSw : ∀ b, ShS b → b < w.heap.size := fun b hb => by rw [(shS_iff b).1 hb]; exact htab
  -- to the go statement
  have h1 : Co Tryd.prog true ShS (fun _ g w2 => ∃ ch, g = G (goR kv nv ct bp bn bc a1 a2 m a4 X β ch [4]) (c :: cs) ∧ Keeps (fun b => b < w.heap.size) w w2 ∧ w.heap.size ≤ ch ∧ ch < w2.heap.size ∧ w2.heap[ch]? = some (.chan m #[] false 0 0 false)) (fun b => b < w.heap.size) (G (goodR kv nv ct bp bn bc a1 a2 (m : Int) a4 X β) (c :: cs)) w := by
    refine chan_R kv nv ct bp bn bc a1 a2 m a4 X β (c :: cs) hm hX h16 hβ hβlt hSβ (fun b hb => hb) hSw fun ch w1 hk h2 h3 h4 => .stop fun w2 hk2 => ⟨ch, rfl, hk.trans ⟨fun b hb => hk2.heap b (.inl hb), hk2.size, hk2.os, hk2.output, hk2.tape⟩, h2, Nat.lt_of_lt_of_le h3 hk2.size, (hk2.heap ch (.inr rfl)).trans h4⟩
  refine (Bes.of_co h1 (fun b hb => hb) fun _ g w2 h _ => h).bind fun g w2 ⟨ch, hg, hk2, hch, hch2, hchan⟩ => ?_
  subst hg
  -- the two beside each other
  have hM0 : ∀ b, b < w2.heap.size ∧ b ≠ ch → b < w2.heap.size ∧ b ≠ ch := fun b hb => hb
  have hMk : ∀ b, ShS b → b < w2.heap.size ∧ b ≠ ch := fun b hb => by
    have := hSw b hb
    have := hk2.size
    omega
  have hold : ∀ b, b < w.heap.size → b < w2.heap.size ∧ b ≠ ch := fun b hb => by
    have := hk2.size
    omega
  have hR : Co Tryd.prog true ShS (RStop Tryd.prog ShS ch (MsgK bs) (fun M g w' => ∃ τ, w.heap.size ≤ τ ∧ FinR (fun b => b < w.heap.size) w BS bs kv nv ct bp bn bc a1 a2 m a4 X β ch τ (c :: cs) M g w') m 0) (fun b => b < w2.heap.size ∧ b ≠ ch) (G (goR kv nv ct bp bn bc a1 a2 m a4 X β ch []) (c :: cs)) w2 := by
    refine make_R kv nv ct bp bn bc a1 a2 m a4 X β ch (c :: cs) (by omega) (fun b hb => hb.1) (fun b hb => (hMk b hb).1) fun w3 row hk3 hrow hflat u14 u53 u54 u55 u56 u57 u58 u59 u60 u61 u62 u63 => ?_
    have hsz := hk3.size
    have hsz2 := hk2.size
    have hpush : ∀ b, b < w3.heap.size → (w3.heap.push (.cells row 5))[b]? = w3.heap[b]? := fun b hb => by rw [Array.getElem?_push_lt hb, Array.getElem?_eq_getElem hb]
    have h := rcv_R (Old := fun b => b < w.heap.size) (w0 := w) (BS := BS) (bs := bs) kv nv ct bp bn bc a1 a2 m a4 X β ch w3.heap.size (c :: cs) b1 o1 hbp hb1 hBS hbn hbc hcell hlo (fun M g w' => ∃ τ, w.heap.size ≤ τ ∧ FinR (fun b => b < w.heap.size) w BS bs kv nv ct bp bn bc a1 a2 m a4 X β ch τ (c :: cs) M g w') (fun M g w' h => ⟨w3.heap.size, by omega, h⟩) m 0 rfl (fun b => (b < w2.heap.size ∧ b ≠ ch) ∨ b = w3.heap.size) { w3 with heap := w3.heap.push (.cells row 5) } row ⟨by simp, by rw [hrow, hBS], hflat, by simp [outR], .inr rfl, by show ¬ w3.heap.size < w.heap.size; omega, fun hs => ?_, fun b hb => ?_, fun b hb => ?_, hk2.trans ⟨fun b hb => ?_, by simp only [Array.size_push]; omega, hk3.os, hk3.output, hk3.tape⟩, fun b hb => .inl (hold b hb)⟩ u14 u53 u54 u55 u56 u57 u58 u59 u60 u61 u62 u63
    · rw [show min (64 * 0) bn = 0 by omega] at h
      exact h
    · have := (hMk _ hs).1
      omega
    · simp only [Array.size_push]
      rcases hb with hb | hb
      · have := hb.1
        omega
      · omega
    · have := (hMk _ hb).1
      simp only [Array.size_push]
      omega
    · have := hold b hb
      show (w3.heap.push _)[b]? = _
      rw [hpush b (by omega), hk3.heap b this]
  have hS : Co Tryd.prog false ShS (SStop Tryd.prog ShS ch (MsgK bs) m 0) ShS (born Tryd.prog (callK X ch ct m)) w2 := by
    refine entry_K X ch ct m (fun b hb => (hMk b hb).1) fun w3 hk3 u5 u6 u7 u8 u9 u12 u13 u14 u15 u16 u17 u18 u19 u20 => ?_
    have hn : ¬ ShS w3.heap.size := fun h => by
      have := (hMk _ h).1
      have := hk3.size
      omega
    refine snd_K X ch ct m w3.heap.size C e bs hX h16 hC hc hm1 hB m 0 rfl _ _ ⟨⟨(0, 0), by simp⟩, .inr rfl, hn, fun b hb => .inl hb, ?_, fun b hb => ?_⟩ u5 u6 u7 u8 u9 u12 u13 u14 u15 u16 u17 u18 u19 u20
    · obtain ⟨lo, hi, h, hl⟩ := hT
      have e1 : w3.heap[0]? = some (.cells C e (lo, hi)) := (hk3.heap _ ((shS_iff _).2 rfl)).trans ((hk2.heap _ htab).trans h)
      refine ⟨lo, hi, ?_, hl⟩
      have hlt := (Array.getElem?_eq_some_iff.1 e1).1
      show (w3.heap.push _)[_]? = _
      rw [Array.getElem?_push_lt hlt, ← Array.getElem?_eq_getElem hlt]
      exact e1
    · have := hk3.size
      show b < (w3.heap.push _).size
      rw [Array.size_push]
      rcases hb with hb | hb
      · have := (hMk b hb).1
        omega
      · omega
  intro gs sl t q h0 hL hP
  refine (go_beside (msgK_keeps bs) rfl (Nat.le_refl m) (fun b _ hb => hb) (go_R kv nv ct bp bn bc a1 a2 m a4 X β ch (c :: cs)) _ gs w2 sl t q rfl h0 hL hP hchan hM0 hMk hR hS).then fun gs1 w3 sl3 t3 ⟨_, a, M0, q1, e0, ⟨τ, hτ, row, H, hg⟩, hL1, hP1⟩ => ?_
  obtain ⟨u14, u54, u55, u56, u57, u58, u59, u60, u61, u62, u63, rfl⟩ := hg
  -- behind the close
  have hrow : row = ((outR BS bs m).map (Value.int .u8)).toArray := by
    have h1 := H.is
    have h2 := H.size
    rw [List.take_of_length_le (by rw [Array.length_toList]; omega)] at h1
    rw [← h1, Array.toArray_toList]
  subst hrow
  refine Bes.of_co (Stop := fun _ g1 w1 => ∃ τ, g1 = G (c.finish (.slice (some ⟨τ, 0, none⟩) bn bn)) cs ∧ w.heap.size ≤ τ ∧ Keeps (fun b => b < w.heap.size) w w1 ∧ w1.heap[τ]? = some (.cells ((outR BS bs m).map (Value.int .u8)).toArray 5 (0, 0))) (Sh := ShS) (M := M0) (shut_R kv nv ct bp bn bc a1 a2 m a4 X β ch τ (min (64 * m) bn) u14 u54 u55 u56 u57 u58 u59 u60 u61 u62 u63 (c :: cs) fun tmps todo h8 => ?_) H.low (fun _ g w' h _ => h) gs1 sl3 t3 q1 e0 hL1 hP1
  rw [show min (64 * m) bn = bn by omega] at h8
  refine leave_R tmps todo _ c cs h8 (.stop fun w4 hk4 => ?_)
  have H4 := H.keeps hk4
  exact ⟨τ, rfl, hτ, H4.old, H4.text⟩

end Go.Proofs.YtepbidaoloplbaaDoor

namespace Go.Proofs.YtepbidaoloplbaaDoor
open Go Go.Conc

section
variable {P : Program} {main : Bool} {Sh : Nat → Prop} {Stop : (Nat → Prop) → Goroutine → World → Prop} {M N : Nat → Prop} {w : World} {n : Nat} {A : Nat → Prop}
/-- The way out, where a result lies in memory. -/
theorem Co.leaves {b : Frame} {a : Act} {todo : List Item} {c : Frame} {cs : List Frame} {fn : Func} {v : Value} (hn : b.kind = .normal) (hd : a.defers = []) (hf : P.funcs[b.fn]? = some fn)
    (hN : ∀ b, N b → M b) (sim : SimS P P RelV (idr N n A) (results fn a.tmps) (results fn a.tmps)) (hm : ∀ w1, Keeps M w w1 → Mine Sh N n A w1) (hr : ∀ w1, Keeps M w w1 → (results fn a.tmps).run P w1 = .ok v w1)
    (h : Co P main Sh Stop M (G (c.finish v) cs) w) : Co P main Sh Stop M (G { b.at a todo with mode := .returning } (c :: cs)) w := by
  have key : ∀ w1, Keeps M w w1 → ∃ es, (results fn a.tmps).runT P w1 #[] = (.ok v w1, es) ∧ ∀ e ∈ es, EvM Sh M e := fun w1 hk1 => by
    have M1 := hm w1 hk1
    cases hrt : (results fn a.tmps).runT P w1 #[] with
    | mk r es0 =>
      have hr1 : r = .ok v w1 := by rw [← hr w1 hk1, ← Sem.runT_fst P _ w1 #[], hrt]
      subst hr1
      obtain ⟨ρ1, v', w1', more, r1, _, r3, r4, r5⟩ := sim.runs #[] (M1.rel w1.drawn) M1.sh M1.big hrt (Nat.le_refl _)
      rw [hrt] at r1
      simp only [Prod.mk.injEq, Result.ok.injEq, Array.empty_append] at r1
      obtain ⟨⟨_, rfl⟩, rfl⟩ := r1
      refine ⟨_, rfl, fun e he => ?_⟩
      have hpair : ∀ b b', ρ1 b b' → b = b' ∧ N b := fun b b' hb => by
        rcases r4.new b b' hb with x | ⟨j, x, _⟩
        · exact x
        · exact absurd (r3.lt hb).1 (by omega)
      rcases r5 e he with ⟨ad, c, h1, h2, h3, h4⟩ | ⟨r, c, h1, h2, h3, h4⟩ | h1
      · obtain ⟨rfl, hmc⟩ := hpair _ _ h3
        exact .inl ⟨ad, h1, h2, hN _ hmc, h4⟩
      · obtain ⟨rfl, hmc⟩ := hpair _ _ h4
        exact .inr (.inl ⟨_, h1, h2, h3, hN _ hmc⟩)
      · exact .inr (.inr h1)
  refine .quiet rfl (fun w1 hk1 => ?_) h
  obtain ⟨es, h1, h2⟩ := key w1 hk1
  refine ⟨seen P b.fn es, ?_, fun e he => h2 e (seen_sub _ _ he)⟩
  simp only [stepG, G, Frame.at, unwind, hd, hf, h1, GStep.after, doReturn, hn, Array.append_empty]
end

def bN : Frame := { (default : Frame) with fn := 29, kind := .normal }
noncomputable def bodyN : Code := Tryd.f29.body.getD .skip
theorem enter_N (kv nv : Value) : Frame.enter Tryd.prog 29 #[kv, nv] .normal = bN.at ⟨#[kv, nv] ++ Array.replicate 40 undef, []⟩ [.code bodyN] := by
  simp [Frame.enter, Frame.at, bN, bodyN, Tryd.func29, Tryd.f29]
theorem results_N (tmps : Array Value) (α : Nat) (h4 : tmps.getD 4 undef = .pointer (some ⟨α, 0, none⟩)) (h5 : tmps.getD 5 undef = .bool false) : results Tryd.f29 tmps = (do let v ← loadVar 48 ⟨α, 0, none⟩; pure (.tuple #[v, .bool false])) := by
  unfold results
  have e : Tryd.f29.results = #[.cell 4 48, .tmp 5] := rfl
  rw [e, Array.mapM_eq_mapM_toList]
  rw [Array.getD_eq_getD_getElem?] at h4 h5
  simp [h4, h5, asAddr]
section
variable {Sh : Nat → Prop} {Stop : (Nat → Prop) → Goroutine → World → Prop} {M : Nat → Prop} {w : World}
set_option maxRecDepth 100000 in
theorem ns1_R (kp : Option Addr) (kn kc : Nat) (nv : Value) (c : Frame) (cs : List Frame) (hk : (kn : Int) ≠ 32) (hM : ∀ b, M b → b < w.heap.size) (hSw : ∀ b, Sh b → b < w.heap.size)
    (next : ∀ w1 M', Keeps M w w1 → (∀ b, M b → M' b) → (∀ b, M' b → M b ∨ w.heap.size ≤ b) → (∀ b, M' b → b < w1.heap.size) → Co Tryd.prog true Sh Stop M' (G (c.finish (.tuple #[.agg (Array.replicate 16 (.int .u32 0)), .bool false])) cs) w1) :
    Co Tryd.prog true Sh Stop M (G (Frame.enter Tryd.prog 29 #[.slice kp kn kc, nv] .normal) (c :: cs)) w := by
  obtain ⟨ti, hti, hzs⟩ := Option.map_eq_some_iff.1 infoS
  simp only [Prod.mk.injEq] at hzs
  obtain ⟨Zr, hZr⟩ : ∃ Z : Array Value, Z = Array.replicate 16 (.int .u32 0) := ⟨_, rfl⟩
  have hZ : ∀ v ∈ Zr, flatC v = true := fun v hv => by rw [hZr] at hv; rw [Array.eq_of_mem_replicate hv]; rfl
  have hZ1 : Zr.all (·.oneCell') = true := by rw [Array.all_eq_true']; intro v hv; rw [hZr] at hv; rw [Array.eq_of_mem_replicate hv]; rfl
  have hZ16 : Zr.size = 16 := by rw [hZr]; simp
  rw [← hZr] at hzs next
  clear hZr
  rw [enter_N]
  simp only [bodyN, Tryd.f29, Option.getD_some]
  walk_nrm
  iterate 2 (first | with_reducible refine Co.ctlG (fun _ => stepG_seq) ?_ | with_reducible refine Co.ctlG (fun _ => stepG_skip) ?_ | with_reducible refine Co.ctlG (fun _ => stepG_block) ?_ | with_reducible refine Co.ctlG (fun _ => stepG_loop) ?_ | with_reducible refine Co.ctlG (fun _ => stepG_inLoop) ?_ | with_reducible refine Co.ctlG (fun _ => stepG_inBlock) ?_ | with_reducible refine Co.ctlG (fun _ => stepG_region_end) ?_ | (with_reducible refine Co.ctlG (fun _ => stepG_region) ?_; (try simp only [List.size_toArray]); (try simp only [List.length_cons]); (try simp only [List.length_nil]); (try simp only [Nat.zero_add]); (try simp only [Nat.reduceAdd]); (try simp only [List.range]); (try simp only [List.range.loop])))
  refine Co.allocV rfl rfl (by decide) rfl hti hzs.1 hM fun w1 hk1 => ?_
  walk_nrm
  refine Co.value (v := .bool false) rfl rfl (by decide) (fun _ => by simp [go_sem, execOp, Act.eval]) (fun _ => by simp [go_sem, execOp, Act.eval]) ?_
  walk_nrm
  iterate 3 (first | with_reducible refine Co.ctlG (fun _ => stepG_seq) ?_ | with_reducible refine Co.ctlG (fun _ => stepG_skip) ?_ | with_reducible refine Co.ctlG (fun _ => stepG_block) ?_ | with_reducible refine Co.ctlG (fun _ => stepG_loop) ?_ | with_reducible refine Co.ctlG (fun _ => stepG_inLoop) ?_ | with_reducible refine Co.ctlG (fun _ => stepG_inBlock) ?_ | with_reducible refine Co.ctlG (fun _ => stepG_region_end) ?_ | (with_reducible refine Co.ctlG (fun _ => stepG_region) ?_; (try simp only [List.size_toArray]); (try simp only [List.length_cons]); (try simp only [List.length_nil]); (try simp only [Nat.zero_add]); (try simp only [Nat.reduceAdd]); (try simp only [List.range]); (try simp only [List.range.loop])))
  have z1 := hk1.size
  have hM1 : ∀ b, (M b ∨ b = w1.heap.size) → b < (w1.heap.push (.cells Zr 48)).size := fun b hb => by
    simp only [Array.size_push]
    rcases hb with hb | hb
    · have := hM b hb; omega
    · omega
  refine Co.allocV rfl rfl (by decide) rfl hti hzs.1 hM1 fun w2 hk2 => ?_
  walk_nrm
  have z2 := hk2.size
  simp only [Array.size_push] at z2
  have hM2 : ∀ b, ((M b ∨ b = w1.heap.size) ∨ b = w2.heap.size) → b < (w2.heap.push (.cells Zr 48)).size := fun b hb => by
    simp only [Array.size_push]
    rcases hb with hb | hb
    · have := hM1 b hb; simp only [Array.size_push] at this; omega
    · omega
  have hS2 : ∀ b, Sh b → b < (w2.heap.push (.cells Zr 48)).size := fun b hb => by
    have := hSw b hb
    simp only [Array.size_push]
    omega
  have ha1 : (w2.heap.push (.cells Zr 48))[w1.heap.size]? = some (.cells Zr 48 (0, 0)) := by
    rw [Array.getElem?_push_lt (by omega), ← Array.getElem?_eq_getElem (by omega), hk2.heap _ (.inr rfl)]
    show (w1.heap.push _)[w1.heap.size]? = _
    rw [Array.getElem?_push, if_pos rfl]
  have ha2 : (w2.heap.push (.cells Zr 48))[w2.heap.size]? = some (.cells Zr 48 (0, 0)) := by rw [Array.getElem?_push, if_pos rfl]
  have hs1 : ¬ Sh w1.heap.size := fun hs => absurd (hSw _ hs) (by omega)
  have hs2 : ¬ Sh w2.heap.size := fun hs => absurd (hSw _ hs) (by omega)
  iterate 4 (first | with_reducible refine Co.ctlG (fun _ => stepG_seq) ?_ | with_reducible refine Co.ctlG (fun _ => stepG_skip) ?_ | with_reducible refine Co.ctlG (fun _ => stepG_block) ?_ | with_reducible refine Co.ctlG (fun _ => stepG_loop) ?_ | with_reducible refine Co.ctlG (fun _ => stepG_inLoop) ?_ | with_reducible refine Co.ctlG (fun _ => stepG_inBlock) ?_ | with_reducible refine Co.ctlG (fun _ => stepG_region_end) ?_ | (with_reducible refine Co.ctlG (fun _ => stepG_region) ?_; (try simp only [List.size_toArray]); (try simp only [List.length_cons]); (try simp only [List.length_nil]); (try simp only [Nat.zero_add]); (try simp only [Nat.reduceAdd]); (try simp only [List.range]); (try simp only [List.range.loop])))
  (refine Co.value rfl rfl (by decide) (fun _ => by simp [execOp, Act.eval]; rfl) (fun _ => by simp [execOp, Act.eval]) ?_; walk_nrm)
  refine Co.value (v := .int .i64 kn) rfl rfl (by decide) (fun _ => by simp [go_sem, execOp, Act.eval, Tryd.underlying22]) (fun _ => by simp [go_sem, execOp, Act.eval]) ?_
  walk_nrm
  refine Co.value (v := .bool true) rfl rfl (by decide) (fun _ => by simp [go_sem, execOp, Act.eval, hk]) (fun _ => by simp [go_sem, execOp, Act.eval]) ?_
  walk_nrm
  (refine Co.value rfl rfl (by decide) (fun _ => by simp [execOp, Act.eval]; rfl) (fun _ => by simp [execOp, Act.eval]) ?_; walk_nrm)
  refine Co.unwanted rfl rfl ?_
  walk_nrm
  refine Co.unwanted rfl rfl ?_
  walk_nrm
  refine Co.unwanted rfl rfl ?_
  walk_nrm
  refine Co.value (v := .bool true) rfl rfl (by decide) (fun _ => by simp [go_sem, execOp, Act.eval]) (fun _ => by simp [go_sem, execOp, Act.eval]) ?_
  walk_nrm
  (first | with_reducible refine Co.ctlG (fun _ => stepG_seq) ?_ | with_reducible refine Co.ctlG (fun _ => stepG_skip) ?_ | with_reducible refine Co.ctlG (fun _ => stepG_block) ?_ | with_reducible refine Co.ctlG (fun _ => stepG_loop) ?_ | with_reducible refine Co.ctlG (fun _ => stepG_inLoop) ?_ | with_reducible refine Co.ctlG (fun _ => stepG_inBlock) ?_ | with_reducible refine Co.ctlG (fun _ => stepG_region_end) ?_ | (with_reducible refine Co.ctlG (fun _ => stepG_region) ?_; (try simp only [List.size_toArray]); (try simp only [List.length_cons]); (try simp only [List.length_nil]); (try simp only [Nat.zero_add]); (try simp only [Nat.reduceAdd]); (try simp only [List.range]); (try simp only [List.range.loop])))
  refine Co.ctlG (fun _ => stepG_cond (t := true) rfl) ?_
  simp only [if_true]
  iterate 2 (first | with_reducible refine Co.ctlG (fun _ => stepG_seq) ?_ | with_reducible refine Co.ctlG (fun _ => stepG_skip) ?_ | with_reducible refine Co.ctlG (fun _ => stepG_block) ?_ | with_reducible refine Co.ctlG (fun _ => stepG_loop) ?_ | with_reducible refine Co.ctlG (fun _ => stepG_inLoop) ?_ | with_reducible refine Co.ctlG (fun _ => stepG_inBlock) ?_ | with_reducible refine Co.ctlG (fun _ => stepG_region_end) ?_ | (with_reducible refine Co.ctlG (fun _ => stepG_region) ?_; (try simp only [List.size_toArray]); (try simp only [List.length_cons]); (try simp only [List.length_nil]); (try simp only [Nat.zero_add]); (try simp only [Nat.reduceAdd]); (try simp only [List.range]); (try simp only [List.range.loop])))
  refine Co.loadRow (d := .array 16 46) rfl rfl (by decide) rfl rfl ha2 (.inr rfl) hs2 hS2 hZ rfl rfl (by rw [hti]; simpa [hZ16] using hzs.2) ?_
  walk_nrm
  refine Co.storeRow (Z := Zr) (X := Zr) (e := 48) (β := w1.heap.size) rfl rfl (by decide) rfl rfl rfl ha1 (.inl (.inr rfl)) hs1 hS2 hM2 hZ hZ hZ1 rfl (by rw [hti]; simpa [hZ16] using hzs.2) fun w3 hk3 => ?_
  walk_nrm
  refine Co.value (v := .bool false) rfl rfl (by decide) (fun _ => by simp [go_sem, execOp, Act.eval]) (fun _ => by simp [go_sem, execOp, Act.eval]) ?_
  walk_nrm
  (first | with_reducible refine Co.ctlG (fun _ => stepG_seq) ?_ | with_reducible refine Co.ctlG (fun _ => stepG_skip) ?_ | with_reducible refine Co.ctlG (fun _ => stepG_block) ?_ | with_reducible refine Co.ctlG (fun _ => stepG_loop) ?_ | with_reducible refine Co.ctlG (fun _ => stepG_inLoop) ?_ | with_reducible refine Co.ctlG (fun _ => stepG_inBlock) ?_ | with_reducible refine Co.ctlG (fun _ => stepG_region_end) ?_ | (with_reducible refine Co.ctlG (fun _ => stepG_region) ?_; (try simp only [List.size_toArray]); (try simp only [List.length_cons]); (try simp only [List.length_nil]); (try simp only [Nat.zero_add]); (try simp only [Nat.reduceAdd]); (try simp only [List.range]); (try simp only [List.range.loop])))
  refine Co.ctlG (fun _ => stepG_ret') ?_
  have z3 := hk3.size
  simp only [Array.size_push] at z3
  have hb1 : (w3.setRow w1.heap.size Zr).heap[w1.heap.size]? = some (.cells Zr 48 (0, 0)) := setRow_heap _ _ _ _ _ _ ((hk3.heap _ (.inl (.inr rfl))).trans ha1)
  have hsz : (w3.setRow w1.heap.size Zr).heap.size = w3.heap.size := by simp [World.setRow]
  refine Co.leaves (N := fun b => b = w1.heap.size) (n := 0) (A := fun _ => False) rfl rfl Tryd.func29 (fun b hb => .inl (.inr hb)) ?_ (fun w4 hk4 => ⟨fun b hb => ?_, fun b hs hb => absurd (hb ▸ hs) hs1, fun b hb => ?_, Nat.zero_le _⟩) (fun w4 hk4 => ?_) (next _ _ ⟨fun b hb => ?_, ?_, ?_, ?_, ?_⟩ (fun b hb => .inl (.inl hb)) (fun b hb => ?_) fun b hb => ?_)
  · rw [results_N _ w1.heap.size rfl rfl]
    refine (sim_loadVar (show RelA (idr (fun b => b = w1.heap.size) 0 fun _ => False) ⟨w1.heap.size, 0, none⟩ ⟨w1.heap.size, 0, none⟩ from ⟨⟨rfl, rfl⟩, rfl, rfl, fun _ => rfl, Nat.zero_le _⟩) 48).bd fun ρ1 v v' _ hv => .pr (.tuple rfl fun i x x' h1 h2 => ?_)
    match i with
    | 0 => cases h1; cases h2; exact hv
    | 1 => cases h1; cases h2; exact .bool false
    | i + 2 => cases h1
  · subst hb
    exact ⟨_, (hk4.heap _ (.inl (.inr rfl))).trans hb1, relO_flatF hZ⟩
  · have := hSw b hb
    have := hk4.size
    omega
  · rw [results_N _ w1.heap.size rfl rfl]
    simp [run_loadVar_row w4 w1.heap.size 48 48 Zr (0, 0) (.array 16 46) ((hk4.heap _ (.inl (.inr rfl))).trans hb1) rfl rfl (by rw [hti]; simpa [hZ16] using hzs.2)]
  · have h0 := hM b hb
    rw [setRow_other _ _ _ _ (by omega), hk3.heap b (.inl (.inl hb))]
    show (w2.heap.push _)[b]? = _
    rw [Array.getElem?_push_lt (by omega), ← Array.getElem?_eq_getElem (by omega), hk2.heap b (.inl hb)]
    show (w1.heap.push _)[b]? = _
    rw [Array.getElem?_push_lt (by omega), ← Array.getElem?_eq_getElem (by omega), hk1.heap b hb]
  · omega
  · exact (hk3.os.trans hk2.os).trans hk1.os
  · exact (hk3.output.trans hk2.output).trans hk1.output
  · exact (hk3.tape.trans hk2.tape).trans hk1.tape
  · rcases hb with (hb | hb) | hb
    · exact .inl hb
    · exact .inr (by omega)
    · exact .inr (by omega)
  · have := hM2 b hb
    simp only [Array.size_push] at this
    omega
set_option maxRecDepth 100000 in
theorem ns2_R (kp np : Option Addr) (kc nn nc : Nat) (c : Frame) (cs : List Frame) (hk : (nn : Int) ≠ 12) (hM : ∀ b, M b → b < w.heap.size) (hSw : ∀ b, Sh b → b < w.heap.size)
    (next : ∀ w1 M', Keeps M w w1 → (∀ b, M b → M' b) → (∀ b, M' b → M b ∨ w.heap.size ≤ b) → (∀ b, M' b → b < w1.heap.size) → Co Tryd.prog true Sh Stop M' (G (c.finish (.tuple #[.agg (Array.replicate 16 (.int .u32 0)), .bool false])) cs) w1) :
    Co Tryd.prog true Sh Stop M (G (Frame.enter Tryd.prog 29 #[.slice kp 32 kc, .slice np nn nc] .normal) (c :: cs)) w := by
  obtain ⟨ti, hti, hzs⟩ := Option.map_eq_some_iff.1 infoS
  simp only [Prod.mk.injEq] at hzs
  obtain ⟨Zr, hZr⟩ : ∃ Z : Array Value, Z = Array.replicate 16 (.int .u32 0) := ⟨_, rfl⟩
  have hZ : ∀ v ∈ Zr, flatC v = true := fun v hv => by rw [hZr] at hv; rw [Array.eq_of_mem_replicate hv]; rfl
  have hZ1 : Zr.all (·.oneCell') = true := by rw [Array.all_eq_true']; intro v hv; rw [hZr] at hv; rw [Array.eq_of_mem_replicate hv]; rfl
  have hZ16 : Zr.size = 16 := by rw [hZr]; simp
  rw [← hZr] at hzs next
  clear hZr
  rw [enter_N]
  simp only [bodyN, Tryd.f29, Option.getD_some]
  walk_nrm
  iterate 2 (first | with_reducible refine Co.ctlG (fun _ => stepG_seq) ?_ | with_reducible refine Co.ctlG (fun _ => stepG_skip) ?_ | with_reducible refine Co.ctlG (fun _ => stepG_block) ?_ | with_reducible refine Co.ctlG (fun _ => stepG_loop) ?_ | with_reducible refine Co.ctlG (fun _ => stepG_inLoop) ?_ | with_reducible refine Co.ctlG (fun _ => stepG_inBlock) ?_ | with_reducible refine Co.ctlG (fun _ => stepG_region_end) ?_ | (with_reducible refine Co.ctlG (fun _ => stepG_region) ?_; (try simp only [List.size_toArray]); (try simp only [List.length_cons]); (try simp only [List.length_nil]); (try simp only [Nat.zero_add]); (try simp only [Nat.reduceAdd]); (try simp only [List.range]); (try simp only [List.range.loop])))
  refine Co.allocV rfl rfl (by decide) rfl hti hzs.1 hM fun w1 hk1 => ?_
  walk_nrm
  refine Co.value (v := .bool false) rfl rfl (by decide) (fun _ => by simp [go_sem, execOp, Act.eval]) (fun _ => by simp [go_sem, execOp, Act.eval]) ?_
  walk_nrm
  iterate 3 (first | with_reducible refine Co.ctlG (fun _ => stepG_seq) ?_ | with_reducible refine Co.ctlG (fun _ => stepG_skip) ?_ | with_reducible refine Co.ctlG (fun _ => stepG_block) ?_ | with_reducible refine Co.ctlG (fun _ => stepG_loop) ?_ | with_reducible refine Co.ctlG (fun _ => stepG_inLoop) ?_ | with_reducible refine Co.ctlG (fun _ => stepG_inBlock) ?_ | with_reducible refine Co.ctlG (fun _ => stepG_region_end) ?_ | (with_reducible refine Co.ctlG (fun _ => stepG_region) ?_; (try simp only [List.size_toArray]); (try simp only [List.length_cons]); (try simp only [List.length_nil]); (try simp only [Nat.zero_add]); (try simp only [Nat.reduceAdd]); (try simp only [List.range]); (try simp only [List.range.loop])))
  have z1 := hk1.size
  have hM1 : ∀ b, (M b ∨ b = w1.heap.size) → b < (w1.heap.push (.cells Zr 48)).size := fun b hb => by
    simp only [Array.size_push]
    rcases hb with hb | hb
    · have := hM b hb; omega
    · omega
  refine Co.allocV rfl rfl (by decide) rfl hti hzs.1 hM1 fun w2 hk2 => ?_
  walk_nrm
  have z2 := hk2.size
  simp only [Array.size_push] at z2
  have hM2 : ∀ b, ((M b ∨ b = w1.heap.size) ∨ b = w2.heap.size) → b < (w2.heap.push (.cells Zr 48)).size := fun b hb => by
    simp only [Array.size_push]
    rcases hb with hb | hb
    · have := hM1 b hb; simp only [Array.size_push] at this; omega
    · omega
  have hS2 : ∀ b, Sh b → b < (w2.heap.push (.cells Zr 48)).size := fun b hb => by
    have := hSw b hb
    simp only [Array.size_push]
    omega
  have ha1 : (w2.heap.push (.cells Zr 48))[w1.heap.size]? = some (.cells Zr 48 (0, 0)) := by
    rw [Array.getElem?_push_lt (by omega), ← Array.getElem?_eq_getElem (by omega), hk2.heap _ (.inr rfl)]
    show (w1.heap.push _)[w1.heap.size]? = _
    rw [Array.getElem?_push, if_pos rfl]
  have ha2 : (w2.heap.push (.cells Zr 48))[w2.heap.size]? = some (.cells Zr 48 (0, 0)) := by rw [Array.getElem?_push, if_pos rfl]
  have hs1 : ¬ Sh w1.heap.size := fun hs => absurd (hSw _ hs) (by omega)
  have hs2 : ¬ Sh w2.heap.size := fun hs => absurd (hSw _ hs) (by omega)
  iterate 4 (first | with_reducible refine Co.ctlG (fun _ => stepG_seq) ?_ | with_reducible refine Co.ctlG (fun _ => stepG_skip) ?_ | with_reducible refine Co.ctlG (fun _ => stepG_block) ?_ | with_reducible refine Co.ctlG (fun _ => stepG_loop) ?_ | with_reducible refine Co.ctlG (fun _ => stepG_inLoop) ?_ | with_reducible refine Co.ctlG (fun _ => stepG_inBlock) ?_ | with_reducible refine Co.ctlG (fun _ => stepG_region_end) ?_ | (with_reducible refine Co.ctlG (fun _ => stepG_region) ?_; (try simp only [List.size_toArray]); (try simp only [List.length_cons]); (try simp only [List.length_nil]); (try simp only [Nat.zero_add]); (try simp only [Nat.reduceAdd]); (try simp only [List.range]); (try simp only [List.range.loop])))
  (refine Co.value rfl rfl (by decide) (fun _ => by simp [execOp, Act.eval]; rfl) (fun _ => by simp [execOp, Act.eval]) ?_; walk_nrm)
  refine Co.value (v := .int .i64 32) rfl rfl (by decide) (fun _ => by simp [go_sem, execOp, Act.eval, Tryd.underlying22]) (fun _ => by simp [go_sem, execOp, Act.eval]) ?_
  walk_nrm
  refine Co.value (v := .bool false) rfl rfl (by decide) (fun _ => by simp [go_sem, execOp, Act.eval]) (fun _ => by simp [go_sem, execOp, Act.eval]) ?_
  walk_nrm
  iterate 2 (refine Co.value rfl rfl (by decide) (fun _ => by simp [execOp, Act.eval]; rfl) (fun _ => by simp [execOp, Act.eval]) ?_; walk_nrm)
  refine Co.value (v := .int .i64 nn) rfl rfl (by decide) (fun _ => by simp [go_sem, execOp, Act.eval, Tryd.underlying22]) (fun _ => by simp [go_sem, execOp, Act.eval]) ?_
  walk_nrm
  refine Co.value (v := .bool true) rfl rfl (by decide) (fun _ => by simp [go_sem, execOp, Act.eval, hk]) (fun _ => by simp [go_sem, execOp, Act.eval]) ?_
  walk_nrm
  refine Co.value (v := .bool true) rfl rfl (by decide) (fun _ => by simp [go_sem, execOp, Act.eval]) (fun _ => by simp [go_sem, execOp, Act.eval]) ?_
  walk_nrm
  (first | with_reducible refine Co.ctlG (fun _ => stepG_seq) ?_ | with_reducible refine Co.ctlG (fun _ => stepG_skip) ?_ | with_reducible refine Co.ctlG (fun _ => stepG_block) ?_ | with_reducible refine Co.ctlG (fun _ => stepG_loop) ?_ | with_reducible refine Co.ctlG (fun _ => stepG_inLoop) ?_ | with_reducible refine Co.ctlG (fun _ => stepG_inBlock) ?_ | with_reducible refine Co.ctlG (fun _ => stepG_region_end) ?_ | (with_reducible refine Co.ctlG (fun _ => stepG_region) ?_; (try simp only [List.size_toArray]); (try simp only [List.length_cons]); (try simp only [List.length_nil]); (try simp only [Nat.zero_add]); (try simp only [Nat.reduceAdd]); (try simp only [List.range]); (try simp only [List.range.loop])))
  refine Co.ctlG (fun _ => stepG_cond (t := true) rfl) ?_
  simp only [if_true]
  iterate 2 (first | with_reducible refine Co.ctlG (fun _ => stepG_seq) ?_ | with_reducible refine Co.ctlG (fun _ => stepG_skip) ?_ | with_reducible refine Co.ctlG (fun _ => stepG_block) ?_ | with_reducible refine Co.ctlG (fun _ => stepG_loop) ?_ | with_reducible refine Co.ctlG (fun _ => stepG_inLoop) ?_ | with_reducible refine Co.ctlG (fun _ => stepG_inBlock) ?_ | with_reducible refine Co.ctlG (fun _ => stepG_region_end) ?_ | (with_reducible refine Co.ctlG (fun _ => stepG_region) ?_; (try simp only [List.size_toArray]); (try simp only [List.length_cons]); (try simp only [List.length_nil]); (try simp only [Nat.zero_add]); (try simp only [Nat.reduceAdd]); (try simp only [List.range]); (try simp only [List.range.loop])))
  refine Co.loadRow (d := .array 16 46) rfl rfl (by decide) rfl rfl ha2 (.inr rfl) hs2 hS2 hZ rfl rfl (by rw [hti]; simpa [hZ16] using hzs.2) ?_
  walk_nrm
  refine Co.storeRow (Z := Zr) (X := Zr) (e := 48) (β := w1.heap.size) rfl rfl (by decide) rfl rfl rfl ha1 (.inl (.inr rfl)) hs1 hS2 hM2 hZ hZ hZ1 rfl (by rw [hti]; simpa [hZ16] using hzs.2) fun w3 hk3 => ?_
  walk_nrm
  refine Co.value (v := .bool false) rfl rfl (by decide) (fun _ => by simp [go_sem, execOp, Act.eval]) (fun _ => by simp [go_sem, execOp, Act.eval]) ?_
  walk_nrm
  (first | with_reducible refine Co.ctlG (fun _ => stepG_seq) ?_ | with_reducible refine Co.ctlG (fun _ => stepG_skip) ?_ | with_reducible refine Co.ctlG (fun _ => stepG_block) ?_ | with_reducible refine Co.ctlG (fun _ => stepG_loop) ?_ | with_reducible refine Co.ctlG (fun _ => stepG_inLoop) ?_ | with_reducible refine Co.ctlG (fun _ => stepG_inBlock) ?_ | with_reducible refine Co.ctlG (fun _ => stepG_region_end) ?_ | (with_reducible refine Co.ctlG (fun _ => stepG_region) ?_; (try simp only [List.size_toArray]); (try simp only [List.length_cons]); (try simp only [List.length_nil]); (try simp only [Nat.zero_add]); (try simp only [Nat.reduceAdd]); (try simp only [List.range]); (try simp only [List.range.loop])))
  refine Co.ctlG (fun _ => stepG_ret') ?_
  have z3 := hk3.size
  simp only [Array.size_push] at z3
  have hb1 : (w3.setRow w1.heap.size Zr).heap[w1.heap.size]? = some (.cells Zr 48 (0, 0)) := setRow_heap _ _ _ _ _ _ ((hk3.heap _ (.inl (.inr rfl))).trans ha1)
  have hsz : (w3.setRow w1.heap.size Zr).heap.size = w3.heap.size := by simp [World.setRow]
  refine Co.leaves (N := fun b => b = w1.heap.size) (n := 0) (A := fun _ => False) rfl rfl Tryd.func29 (fun b hb => .inl (.inr hb)) ?_ (fun w4 hk4 => ⟨fun b hb => ?_, fun b hs hb => absurd (hb ▸ hs) hs1, fun b hb => ?_, Nat.zero_le _⟩) (fun w4 hk4 => ?_) (next _ _ ⟨fun b hb => ?_, ?_, ?_, ?_, ?_⟩ (fun b hb => .inl (.inl hb)) (fun b hb => ?_) fun b hb => ?_)
  · rw [results_N _ w1.heap.size rfl rfl]
    refine (sim_loadVar (show RelA (idr (fun b => b = w1.heap.size) 0 fun _ => False) ⟨w1.heap.size, 0, none⟩ ⟨w1.heap.size, 0, none⟩ from ⟨⟨rfl, rfl⟩, rfl, rfl, fun _ => rfl, Nat.zero_le _⟩) 48).bd fun ρ1 v v' _ hv => .pr (.tuple rfl fun i x x' h1 h2 => ?_)
    match i with
    | 0 => cases h1; cases h2; exact hv
    | 1 => cases h1; cases h2; exact .bool false
    | i + 2 => cases h1
  · subst hb
    exact ⟨_, (hk4.heap _ (.inl (.inr rfl))).trans hb1, relO_flatF hZ⟩
  · have := hSw b hb
    have := hk4.size
    omega
  · rw [results_N _ w1.heap.size rfl rfl]
    simp [run_loadVar_row w4 w1.heap.size 48 48 Zr (0, 0) (.array 16 46) ((hk4.heap _ (.inl (.inr rfl))).trans hb1) rfl rfl (by rw [hti]; simpa [hZ16] using hzs.2)]
  · have h0 := hM b hb
    rw [setRow_other _ _ _ _ (by omega), hk3.heap b (.inl (.inl hb))]
    show (w2.heap.push _)[b]? = _
    rw [Array.getElem?_push_lt (by omega), ← Array.getElem?_eq_getElem (by omega), hk2.heap b (.inl hb)]
    show (w1.heap.push _)[b]? = _
    rw [Array.getElem?_push_lt (by omega), ← Array.getElem?_eq_getElem (by omega), hk1.heap b hb]
  · omega
  · exact (hk3.os.trans hk2.os).trans hk1.os
  · exact (hk3.output.trans hk2.output).trans hk1.output
  · exact (hk3.tape.trans hk2.tape).trans hk1.tape
  · rcases hb with (hb | hb) | hb
    · exact .inl hb
    · exact .inr (by omega)
    · exact .inr (by omega)
  · have := hM2 b hb
    simp only [Array.size_push] at this
    omega
end

end Go.Proofs.YtepbidaoloplbaaDoor

namespace Go.Proofs.YtepbidaoloplbaaDoor
open Go.RowKit
set_option maxRecDepth 100000

set_option maxHeartbeats 2000000 in
theorem growNilI_any (n : Nat) (w : World) (h0 : 0 < n) (hn : n ≤ 1073741824) :
    Calls Tryd.prog 55 #[.slice none 0 0, .int .i64 n] w fun e w' => ∃ p c, e = .returned (.slice p 0 c) ∧ w'.ownsRow w.heap.size 3 1 (.slice p 0 c) 0 (([] : List Int).map (Value.int .i64)) ∧ Below w.heap.size w w' := by
  obtain ⟨i0, hi, hz0, hz1, hz2⟩ := info_parts infoInt
  have h1 : ¬ ((n : Int) < 0) := by omega
  have h4 : (n : Int) > 0 := by omega
  have hrz := fun ty => Lib.run_append_nil_zeros (P := Tryd.prog) w 32 3 ty 3 i0 (.int .i64 0) .i64 .i64 Tryd.underlying32 Tryd.underlying3 hi hz0 n h0 (by omega) (by omega) (by rw [hz2]; omega)
  have hge := grownCap_ge w n 0 3
  have hcm := grownCap_le_maxLen w n 0 3 (by unfold maxLen; omega)
  generalize grownCap w n 0 3 = G at hrz hge hcm
  have hown : (w.drew.alloc (.cells (Builtin.zeroCells (Value.cells (.int .i64 0)) n ++ Builtin.zeroCells (Value.cells (.int .i64 0)) (G - n)) 3)).ownsRow w.heap.size 3 1 (.slice (some ⟨w.heap.size, 0, none⟩) 0 G) 0 (([] : List Int).map (Value.int .i64)) :=
    World.ownsRow_made w.drew _ G (by simp) hcm (by simp [size_zeroCells, Value.cells]; omega)
  have hbel : Below w.heap.size w (w.drew.alloc (.cells (Builtin.zeroCells (Value.cells (.int .i64 0)) n ++ Builtin.zeroCells (Value.cells (.int .i64 0)) (G - n)) 3)) := (Below.refl _ _).drew.alloc (by simp) _
  generalize w.drew.alloc (.cells (Builtin.zeroCells (Value.cells (.int .i64 0)) n ++ Builtin.zeroCells (Value.cells (.int .i64 0)) (G - n)) 3) = w1 at hrz hown hbel
  unfold maxLen at hcm
  go_enter Tryd.func55, Tryd.ntmps55
  go_wp2_with (at_builtin; refine Lib.wpList_append_run _ rfl _ _ _ _ rfl _ _ rfl rfl _ _ (hrz _) ?_)
  all_goals (go_ret; exact ⟨_, _, rfl, hown, hbel⟩)

set_option maxHeartbeats 4000000 in
theorem concatI_any (gr m : Nat) (Pf : Nat → Option Addr) (nf cf : Nat → Nat) (xf : Nat → List Int) (w : World) (hm : m ≤ 1000) (hcell : ∀ k, k < m → w.cell? ⟨gr, k, none⟩ = some (.slice (Pf k) (nf k) (cf k)))
    (hlen : ∀ k, k < m → (xf k).length = nf k) (hin : ∀ k, k < m → IntsIn w (Pf k) (nf k) (xf k)) (h0 : 0 < sumN nf m) (hs : sumN nf m ≤ 1073741824) :
    Calls Tryd.prog 49 #[.slice (some ⟨gr, 0, none⟩) m m] w fun e w' => ∃ p c, e = .returned (.slice p (sumN nf m) c) ∧ OwnI 3 w' w.heap.size w'.heap.size (.slice p (sumN nf m) c) (sumN nf m) (catL xf m) ∧ Below w.heap.size w w' := by
  obtain ⟨i0, hi, hz0, hz1, hz2⟩ := info_parts infoInt
  have HC : Hid (∀ k, k < m → w.cell? ⟨gr, k, none⟩ = some (.slice (Pf k) (nf k) (cf k))) := hcell
  have HL : Hid (∀ k, k < m → (xf k).length = nf k) := hlen
  have HI : Hid (∀ k, k < m → IntsIn w (Pf k) (nf k) (xf k)) := hin
  clear hcell hlen hin
  go_enter Tryd.func49, Tryd.ntmps49
  go_wp2
  go_loop [3, 11] (fun v i => ∃ k s : Nat, k ≤ m ∧ i = .int .i64 k ∧ v = .int .i64 s ∧ Hid (s = sumN nf k)) (fun _ i => m - (intOf i).toNat)
  case atStart => exact ⟨0, 0, by omega, rfl, rfl, rfl⟩
  case round =>
    obtain ⟨k, s, hk, rfl, rfl, hsk⟩ := hrel
    by_cases hlt : k < m
    · have hc := HC.out k hlt
      have hle : s + nf k ≤ 1073741824 := by rw [hsk.out]; exact Nat.le_trans (sumN_le nf (k := k + 1) hlt) hs
      have HN : Hid (s + nf k = sumN nf (k + 1)) := by rw [hsk.out]; rfl
      generalize nf k = n1 at hc hle HN
      generalize Pf k = p1 at hc
      generalize cf k = c1 at hc
      have hneg : ¬ ((s : Int) + (n1 : Int) < 0) := by omega
      go_wp2
      go_round
      case rel => exact ⟨k + 1, s + n1, by omega, by go_num, by go_num, HN⟩
      case measure => simp [intOf]; omega
    · obtain rfl : k = m := by omega
      obtain rfl : s = sumN nf k := hsk.out
      clear hsk
      have HS : Hid (sumN nf k = sumN nf k) := rfl
      generalize hN : sumN nf k = N at h0 hs HS ⊢
      clear HS
      have HNn : Hid (sumN nf k = N) := hN
      clear hN
      have hneg : ¬ ((N : Int) < 0) := by omega
      go_wp2_with (fail)
      refine (growNilI_any N _ h0 hs).mono ?_
      rintro e w1 ⟨p1, c1, rfl, ho1, b1⟩
      go_wp2_with (fail)
      go_loopw [6, 27] (fun v i wr => ∃ j s : Nat, j ≤ k ∧ i = .int .i64 j ∧ Hid (s = sumN nf j) ∧ wr.ownsRow w.heap.size 3 1 v s ((catL xf j).map (Value.int .i64)) ∧ Below w.heap.size w wr)
        (fun _ i _ => k - (intOf i).toNat)
      case atStart => exact ⟨0, 0, by omega, rfl, rfl, ho1, b1⟩
      case round =>
        clear ho1 b1
        obtain ⟨j, s, hj, rfl, hsj, hown, hbel⟩ := hrel
        have hsz := hbel.size
        by_cases hlt2 : j < k
        · have hc := HC.out j hlt2
          have hgr : gr < w.heap.size := World.block_lt_of_cell? w ⟨gr, j, none⟩ hc
          have hc2 := (hbel.cell (p := ⟨gr, j, none⟩) hgr).trans hc
          have hle : s + nf j ≤ N := by rw [hsj.out, ← HNn.out]; exact sumN_le nf (k := j + 1) hlt2
          have HN : Hid (s + nf j = sumN nf (j + 1)) := by rw [hsj.out]; rfl
          have hl := HL.out j hlt2
          have hI := HI.out j hlt2
          replace hI : IntsIn wr (Pf j) (nf j) (xf j) := by
            intro hpos
            obtain ⟨bb, oo, e1, e2⟩ := hI hpos
            exact ⟨bb, oo, e1, fun i hi => (hbel.cell (p := ⟨bb, oo + i, none⟩) (World.block_lt_of_cell? w ⟨bb, oo + i, none⟩ (e2 i hi))).trans (e2 i hi)⟩
          have HX : Hid (catL xf j ++ xf j = catL xf (j + 1)) := rfl
          generalize nf j = n1 at hc hc2 hle HN hl hI
          generalize Pf j = p1 at hc hc2 hI
          generalize cf j = c1 at hc hc2
          generalize xf j = y1 at hl hI HX
          obtain ⟨q, cq, hv⟩ := owns_form hown
          subst hv
          clear hc
          go_wp2_with (at_builtin; refine list_spreadIA hi hz0 hz1 hz2 (.tmp 31) (.tmp 32) 32 Tryd.underlying32 hown hI hl (by omega) (by omega) hsz (by rfl) (by rfl) (by rfl) (by rfl) ?_; intro p' cap w3 ho3 hb3; rw [HX.out] at ho3)
          go_roundw
          case rel => exact ⟨j + 1, s + n1, by omega, by go_num, HN, ho3, hbel.trans hb3⟩
          case measure => simp [intOf]; omega
        · obtain rfl : j = k := by omega
          obtain rfl : s = N := hsj.out.trans HNn.out
          obtain ⟨q, cq, hv⟩ := owns_form hown
          subst hv
          go_wp2
          go_ret
          rw [HNn.out]
          exact ⟨_, _, rfl, .of hown, hbel⟩

theorem concat4I (p0 p1 p2 p3 : Option Addr) (n0 n1 n2 n3 c0 c1 c2 c3 : Nat) (xs0 xs1 xs2 xs3 : List Int) (w0 : World) (hx0 : xs0.length = n0) (hx1 : xs1.length = n1) (hx2 : xs2.length = n2) (hx3 : xs3.length = n3) (h0 : 0 < n0 + n1 + n2 + n3) (hs1 : n0 + n1 + n2 + n3 ≤ 1048576)
    (i0 : IntsIn w0 p0 n0 xs0) (i1 : IntsIn w0 p1 n1 xs1) (i2 : IntsIn w0 p2 n2 xs2) (i3 : IntsIn w0 p3 n3 xs3) (gr : Nat) (hgr : w0.heap.size = gr) :
    Calls Tryd.prog 49 #[.slice (some ⟨gr, 0, none⟩) 4 4] (w0.alloc (.cells #[.slice p0 n0 c0, .slice p1 n1 c1, .slice p2 n2 c2, .slice p3 n3 c3] 32)) fun e w' =>
      ∃ p' c', e = .returned (.slice p' (n0 + n1 + n2 + n3) c') ∧ OwnI 3 w' w0.heap.size w'.heap.size (.slice p' (n0 + n1 + n2 + n3) c') (n0 + n1 + n2 + n3) (xs0 ++ xs1 ++ xs2 ++ xs3) ∧ Below w0.heap.size w0 w' := by
  subst hgr
  have ba : Below w0.heap.size w0 (w0.alloc (.cells #[.slice p0 n0 c0, .slice p1 n1 c1, .slice p2 n2 c2, .slice p3 n3 c3] 32)) := (Below.refl _ _).alloc (Nat.le_refl _) _
  have hs : sumN (fun k => match k with | 0 => n0 | 1 => n1 | 2 => n2 | _ => n3) 4 = n0 + n1 + n2 + n3 := by simp [sumN]
  have hc : catL (fun k => match k with | 0 => xs0 | 1 => xs1 | 2 => xs2 | _ => xs3) 4 = xs0 ++ xs1 ++ xs2 ++ xs3 := by simp [catL]
  have h := concatI_any w0.heap.size 4 (fun k => match k with | 0 => p0 | 1 => p1 | 2 => p2 | _ => p3) (fun k => match k with | 0 => n0 | 1 => n1 | 2 => n2 | _ => n3) (fun k => match k with | 0 => c0 | 1 => c1 | 2 => c2 | _ => c3) (fun k => match k with | 0 => xs0 | 1 => xs1 | 2 => xs2 | _ => xs3)
    (w0.alloc (.cells #[.slice p0 n0 c0, .slice p1 n1 c1, .slice p2 n2 c2, .slice p3 n3 c3] 32)) (by decide)
    (fun k hk => by
      rw [cell_of_row _ _ k _ _ _ (heap_alloc_new w0 _)]
      match k, hk with
      | 0, _ => rfl
      | 1, _ => rfl
      | 2, _ => rfl
      | 3, _ => rfl)
    (fun k hk => by
      match k, hk with
      | 0, _ => exact hx0
      | 1, _ => exact hx1
      | 2, _ => exact hx2
      | 3, _ => exact hx3)
    (fun k hk => by
      match k, hk with
      | 0, _ => exact in_belowI i0 ba
      | 1, _ => exact in_belowI i1 ba
      | 2, _ => exact in_belowI i2 ba
      | 3, _ => exact in_belowI i3 ba)
    (by rw [hs]; omega) (by rw [hs]; omega)
  rw [hs, hc] at h
  refine h.mono ?_
  rintro e w' ⟨p', c', rfl, r, b⟩
  exact ⟨p', c', rfl, ⟨owns_mono r.1 (by simp), r.2⟩, below_on ba b⟩

end Go.Proofs.YtepbidaoloplbaaDoor
