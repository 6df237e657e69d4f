/-
  A part of the proof.
-/
import Derived.Test.YtnpffnhiefgglaaGreatDoorParw12
import Derived.Conc.DeferLaws
import Derived.Great.BuildSlice
namespace Go.Proofs.YtnpffnhiefgglaaGreatDoor
open Go Go.Conc
set_option maxRecDepth 100000
section
variable {Sh : Nat → Prop} {Stop : (Nat → Prop) → Goroutine → World → Prop} {M : Nat → Prop} {w : World}
theorem leave_R (tmps : Array Value) (todo : List Item) (v : Value) (c : Frame) (cs : List Frame) (h8 : tmps.getD 8 undef = v) (next : Co Tryz.prog true Sh Stop M (G (c.finish v) cs) w) :
    Co Tryz.prog true Sh Stop M (G { bR.at ⟨tmps, []⟩ todo with mode := .returning } (c :: cs)) w := by
  refine .ctl rfl (fun w1 => ?_) next
  exact stepG_leave rfl rfl Tryz.func72 (by rw [← h8]; simp [results, Tryz.f72]) (by simp [results, Tryz.f72])
end
theorem tail_bes (kv nv : Value) (ct : Int) (bp : Option Addr) (bn bc : Nat) (a1 a2 : Int) (m : Nat) (a4 : Int) (X : Array Value) (β : Nat) (c : Frame) (cs : List Frame) (b1 o1 : Nat) (BS : List Int) (bs : Nat → Nat → Int) (C : Array Value) (e : TypeId) (w : World) (hm : (m : Int) ≤ 1000000) (hX : ∀ v ∈ X, flatC v = true) (h16 : X.size = 16) (hβ : w.heap[β]? = some (.cells X 131 (0, 0))) (hSβ : ¬ ShS β)
    (hT : TableIn C e w) (hC : ∀ v ∈ C, flatC v = true) (hB : BlockIs X ct m C e bs) (hc : ∀ i : Nat, i < m → IntKind.i64.wrap (ct + (i : Int)) = ct + (i : Int)) (hm1 : ∀ i : Nat, i < m → IntKind.i64.wrap ((i : Int) + 1) = (i : Int) + 1)
    (hbp : 0 < bn → bp = some ⟨b1, o1, none⟩) (hb1 : b1 < w.heap.size) (hBS : BS.length = bn) (hbn : bn ≤ 1048576) (hbc : bn ≤ bc) (hcell : ∀ j u, BS[j]? = some u → w.cell? ⟨b1, o1 + j, none⟩ = some (.int .u8 u)) (hlo : ∀ i, i < m → 64 * i < bn) (hhi : bn ≤ 64 * m) :
    Bes Tryz.prog (fun g1 w1 => ∃ τ, g1 = G (c.finish (.slice (some ⟨τ, 0, none⟩) bn bn)) cs ∧ w.heap.size ≤ τ ∧ Keeps (fun b => b < w.heap.size) w w1 ∧ w1.heap[τ]? = some (.cells ((outR BS bs m).map (Value.int .u8)).toArray 5 (0, 0)))
      (G (goodR kv nv ct bp bn bc a1 a2 (m : Int) a4 X β) (c :: cs)) w := by
  have hβlt : β < w.heap.size := (Array.getElem?_eq_some_iff.1 hβ).1
  have htab : 1 < w.heap.size := by
    obtain ⟨lo, hi, h, _⟩ := hT
    exact (Array.getElem?_eq_some_iff.1 h).1
  have hSw : ∀ b, ShS b → b < w.heap.size := fun b hb => by rw [(shS_iff b).1 hb]; exact htab
  have h1 : Co Tryz.prog true ShS (fun _ g w2 => ∃ ch, g = G (goR kv nv ct bp bn bc a1 a2 m a4 X β ch [4]) (c :: cs) ∧ Keeps (fun b => b < w.heap.size) w w2 ∧ w.heap.size ≤ ch ∧ ch < w2.heap.size ∧ w2.heap[ch]? = some (.chan m #[] false 0 0 false)) (fun b => b < w.heap.size) (G (goodR kv nv ct bp bn bc a1 a2 (m : Int) a4 X β) (c :: cs)) w := by
    refine chan_R kv nv ct bp bn bc a1 a2 m a4 X β (c :: cs) hm hX h16 hβ hβlt hSβ (fun b hb => hb) hSw fun ch w1 hk h2 h3 h4 => .stop fun w2 hk2 => ⟨ch, rfl, hk.trans ⟨fun b hb => hk2.heap b (.inl hb), hk2.size, hk2.os, hk2.output, hk2.tape⟩, h2, Nat.lt_of_lt_of_le h3 hk2.size, (hk2.heap ch (.inr rfl)).trans h4⟩
  refine (Bes.of_co h1 (fun b hb => hb) fun _ g w2 h _ => h).bind fun g w2 ⟨ch, hg, hk2, hch, hch2, hchan⟩ => ?_
  subst hg
  have hM0 : ∀ b, b < w2.heap.size ∧ b ≠ ch → b < w2.heap.size ∧ b ≠ ch := fun b hb => hb
  have hMk : ∀ b, ShS b → b < w2.heap.size ∧ b ≠ ch := fun b hb => by
    have := hSw b hb
    have := hk2.size
    omega
  have hold : ∀ b, b < w.heap.size → b < w2.heap.size ∧ b ≠ ch := fun b hb => by
    have := hk2.size
    omega
  have hR : Co Tryz.prog true ShS (RStop Tryz.prog ShS ch (MsgK bs) (fun M g w' => ∃ τ, w.heap.size ≤ τ ∧ FinR (fun b => b < w.heap.size) w BS bs kv nv ct bp bn bc a1 a2 m a4 X β ch τ (c :: cs) M g w') m 0) (fun b => b < w2.heap.size ∧ b ≠ ch) (G (goR kv nv ct bp bn bc a1 a2 m a4 X β ch []) (c :: cs)) w2 := by
    refine make_R kv nv ct bp bn bc a1 a2 m a4 X β ch (c :: cs) (by omega) (fun b hb => hb.1) (fun b hb => (hMk b hb).1) fun w3 row hk3 hrow hflat u14 u53 u54 u55 u56 u57 u58 u59 u60 u61 u62 u63 => ?_
    have hsz := hk3.size
    have hsz2 := hk2.size
    have hpush : ∀ b, b < w3.heap.size → (w3.heap.push (.cells row 5))[b]? = w3.heap[b]? := fun b hb => by rw [Array.getElem?_push_lt hb, Array.getElem?_eq_getElem hb]
    have h := rcv_R (Old := fun b => b < w.heap.size) (w0 := w) (BS := BS) (bs := bs) kv nv ct bp bn bc a1 a2 m a4 X β ch w3.heap.size (c :: cs) b1 o1 hbp hb1 hBS hbn hbc hcell hlo (fun M g w' => ∃ τ, w.heap.size ≤ τ ∧ FinR (fun b => b < w.heap.size) w BS bs kv nv ct bp bn bc a1 a2 m a4 X β ch τ (c :: cs) M g w') (fun M g w' h => ⟨w3.heap.size, by omega, h⟩) m 0 rfl (fun b => (b < w2.heap.size ∧ b ≠ ch) ∨ b = w3.heap.size) { w3 with heap := w3.heap.push (.cells row 5) } row ⟨by simp, by rw [hrow, hBS], hflat, by simp [outR], .inr rfl, by show ¬ w3.heap.size < w.heap.size; omega, fun hs => ?_, fun b hb => ?_, fun b hb => ?_, hk2.trans ⟨fun b hb => ?_, by simp only [Array.size_push]; omega, hk3.os, hk3.output, hk3.tape⟩, fun b hb => .inl (hold b hb)⟩ u14 u53 u54 u55 u56 u57 u58 u59 u60 u61 u62 u63
    · rw [show min (64 * 0) bn = 0 by omega] at h
      exact h
    · have := (hMk _ hs).1
      omega
    · simp only [Array.size_push]
      rcases hb with hb | hb
      · have := hb.1
        omega
      · omega
    · have := (hMk _ hb).1
      simp only [Array.size_push]
      omega
    · have := hold b hb
      show (w3.heap.push _)[b]? = _
      rw [hpush b (by omega), hk3.heap b this]
  have hS : Co Tryz.prog false ShS (SStop Tryz.prog ShS ch (MsgK bs) m 0) ShS (born Tryz.prog (callK X ch ct m)) w2 := by
    refine entry_K X ch ct m (fun b hb => (hMk b hb).1) fun w3 hk3 u5 u6 u7 u8 u9 u12 u13 u14 u15 u16 u17 u18 u19 u20 => ?_
    have hn : ¬ ShS w3.heap.size := fun h => by
      have := (hMk _ h).1
      have := hk3.size
      omega
    refine snd_K X ch ct m w3.heap.size C e bs hX h16 hC hc hm1 hB m 0 rfl _ _ ⟨⟨(0, 0), by simp⟩, .inr rfl, hn, fun b hb => .inl hb, ?_, fun b hb => ?_⟩ u5 u6 u7 u8 u9 u12 u13 u14 u15 u16 u17 u18 u19 u20
    · obtain ⟨lo, hi, h, hl⟩ := hT
      have e1 : w3.heap[1]? = some (.cells C e (lo, hi)) := (hk3.heap _ ((shS_iff _).2 rfl)).trans ((hk2.heap _ htab).trans h)
      refine ⟨lo, hi, ?_, hl⟩
      have hlt := (Array.getElem?_eq_some_iff.1 e1).1
      show (w3.heap.push _)[_]? = _
      rw [Array.getElem?_push_lt hlt, ← Array.getElem?_eq_getElem hlt]
      exact e1
    · have := hk3.size
      show b < (w3.heap.push _).size
      rw [Array.size_push]
      rcases hb with hb | hb
      · have := (hMk b hb).1
        omega
      · omega
  intro gs sl t q h0 hL hP
  refine (go_beside (msgK_keeps bs) rfl (Nat.le_refl m) (fun b _ hb => hb) (go_R kv nv ct bp bn bc a1 a2 m a4 X β ch (c :: cs)) _ gs w2 sl t q rfl h0 hL hP hchan hM0 hMk hR hS).then fun gs1 w3 sl3 t3 ⟨_, a, M0, q1, e0, ⟨τ, hτ, row, H, hg⟩, hL1, hP1⟩ => ?_
  obtain ⟨u14, u54, u55, u56, u57, u58, u59, u60, u61, u62, u63, rfl⟩ := hg
  have hrow : row = ((outR BS bs m).map (Value.int .u8)).toArray := by
    have h1 := H.is
    have h2 := H.size
    rw [List.take_of_length_le (by rw [Array.length_toList]; omega)] at h1
    rw [← h1, Array.toArray_toList]
  subst hrow
  refine Bes.of_co (Stop := fun _ g1 w1 => ∃ τ, g1 = G (c.finish (.slice (some ⟨τ, 0, none⟩) bn bn)) cs ∧ w.heap.size ≤ τ ∧ Keeps (fun b => b < w.heap.size) w w1 ∧ w1.heap[τ]? = some (.cells ((outR BS bs m).map (Value.int .u8)).toArray 5 (0, 0))) (Sh := ShS) (M := M0) (shut_R kv nv ct bp bn bc a1 a2 m a4 X β ch τ (min (64 * m) bn) u14 u54 u55 u56 u57 u58 u59 u60 u61 u62 u63 (c :: cs) fun tmps todo h8 => ?_) H.low (fun _ g w' h _ => h) gs1 sl3 t3 q1 e0 hL1 hP1
  rw [show min (64 * m) bn = bn by omega] at h8
  refine leave_R tmps todo _ c cs h8 (.stop fun w4 hk4 => ?_)
  have H4 := H.keeps hk4
  exact ⟨τ, rfl, hτ, H4.old, H4.text⟩
section
variable {P : Program} {main : Bool} {Sh : Nat → Prop} {Stop : (Nat → Prop) → Goroutine → World → Prop} {M N : Nat → Prop} {w : World} {n : Nat} {A : Nat → Prop}
theorem Co.leaves {b : Frame} {a : Act} {todo : List Item} {c : Frame} {cs : List Frame} {fn : Func} {v : Value} (hn : b.kind = .normal) (hd : a.defers = []) (hf : P.funcs[b.fn]? = some fn)
    (hN : ∀ b, N b → M b) (sim : SimS P P RelV (idr N n A) (results fn a.tmps) (results fn a.tmps)) (hm : ∀ w1, Keeps M w w1 → Mine Sh N n A w1) (hr : ∀ w1, Keeps M w w1 → (results fn a.tmps).run P w1 = .ok v w1)
    (h : Co P main Sh Stop M (G (c.finish v) cs) w) : Co P main Sh Stop M (G { b.at a todo with mode := .returning } (c :: cs)) w := by
  have key : ∀ w1, Keeps M w w1 → ∃ es, (results fn a.tmps).runT P w1 #[] = (.ok v w1, es) ∧ ∀ e ∈ es, EvM Sh M e := fun w1 hk1 => by
    have M1 := hm w1 hk1
    cases hrt : (results fn a.tmps).runT P w1 #[] with
    | mk r es0 =>
      have hr1 : r = .ok v w1 := by rw [← hr w1 hk1, ← Sem.runT_fst P _ w1 #[], hrt]
      subst hr1
      obtain ⟨ρ1, v', w1', more, r1, _, r3, r4, r5⟩ := sim.runs #[] (M1.rel w1.drawn) M1.sh M1.big hrt (Nat.le_refl _)
      rw [hrt] at r1
      simp only [Prod.mk.injEq, Result.ok.injEq, Array.empty_append] at r1
      obtain ⟨⟨_, rfl⟩, rfl⟩ := r1
      refine ⟨_, rfl, fun e he => ?_⟩
      have hpair : ∀ b b', ρ1 b b' → b = b' ∧ N b := fun b b' hb => by
        rcases r4.new b b' hb with x | ⟨j, x, _⟩
        · exact x
        · exact absurd (r3.lt hb).1 (by omega)
      rcases r5 e he with ⟨ad, c, h1, h2, h3, h4⟩ | ⟨r, c, h1, h2, h3, h4⟩ | h1
      · obtain ⟨rfl, hmc⟩ := hpair _ _ h3
        exact .inl ⟨ad, h1, h2, hN _ hmc, h4⟩
      · obtain ⟨rfl, hmc⟩ := hpair _ _ h4
        exact .inr (.inl ⟨_, h1, h2, h3, hN _ hmc⟩)
      · exact .inr (.inr h1)
  refine .quiet rfl (fun w1 hk1 => ?_) h
  obtain ⟨es, h1, h2⟩ := key w1 hk1
  refine ⟨seen P b.fn es, ?_, fun e he => h2 e (seen_sub _ _ he)⟩
  simp only [stepG, G, Frame.at, unwind, hd, hf, h1, GStep.after, doReturn, hn, Array.append_empty]
end
def bN : Frame := { (default : Frame) with fn := 107, kind := .normal }
noncomputable def bodyN : Code := Tryz.f107.body.getD .skip
theorem enter_N (kv nv : Value) : Frame.enter Tryz.prog 107 #[kv, nv] .normal = bN.at ⟨#[kv, nv] ++ Array.replicate 40 undef, []⟩ [.code bodyN] := by
  simp [Frame.enter, Frame.at, bN, bodyN, Tryz.func107, Tryz.f107]
theorem results_N (tmps : Array Value) (α : Nat) (h4 : tmps.getD 4 undef = .pointer (some ⟨α, 0, none⟩)) (h5 : tmps.getD 5 undef = .bool false) : results Tryz.f107 tmps = (do let v ← loadVar 131 ⟨α, 0, none⟩; pure (.tuple #[v, .bool false])) := by
  unfold results
  have e : Tryz.f107.results = #[.cell 4 131, .tmp 5] := rfl
  rw [e, Array.mapM_eq_mapM_toList]
  rw [Array.getD_eq_getD_getElem?] at h4 h5
  simp [h4, h5, asAddr]
section
variable {Sh : Nat → Prop} {Stop : (Nat → Prop) → Goroutine → World → Prop} {M : Nat → Prop} {w : World}
theorem ns1_R (kp : Option Addr) (kn kc : Nat) (nv : Value) (c : Frame) (cs : List Frame) (hk : (kn : Int) ≠ 32) (hM : ∀ b, M b → b < w.heap.size) (hSw : ∀ b, Sh b → b < w.heap.size)
    (next : ∀ w1 M', Keeps M w w1 → (∀ b, M b → M' b) → (∀ b, M' b → M b ∨ w.heap.size ≤ b) → (∀ b, M' b → b < w1.heap.size) → Co Tryz.prog true Sh Stop M' (G (c.finish (.tuple #[.agg (Array.replicate 16 (.int .u32 0)), .bool false])) cs) w1) :
    Co Tryz.prog true Sh Stop M (G (Frame.enter Tryz.prog 107 #[.slice kp kn kc, nv] .normal) (c :: cs)) w := by
  obtain ⟨ti, hti, hzs⟩ := Option.map_eq_some_iff.1 infoS
  simp only [Prod.mk.injEq] at hzs
  obtain ⟨Zr, hZr⟩ : ∃ Z : Array Value, Z = Array.replicate 16 (.int .u32 0) := ⟨_, rfl⟩
  have hZ : ∀ v ∈ Zr, flatC v = true := fun v hv => by rw [hZr] at hv; rw [Array.eq_of_mem_replicate hv]; rfl
  have hZ1 : Zr.all (·.oneCell') = true := by rw [Array.all_eq_true']; intro v hv; rw [hZr] at hv; rw [Array.eq_of_mem_replicate hv]; rfl
  have hZ16 : Zr.size = 16 := by rw [hZr]; simp
  rw [← hZr] at hzs next
  clear hZr
  rw [enter_N]
  simp only [bodyN, Tryz.f107, Option.getD_some]
  walk_nrm
  iterate 2 (with_reducible refine Co.ctlG (fun _ => by first | exact stepG_seq | exact stepG_skip | exact stepG_block | exact stepG_loop | exact stepG_inLoop | exact stepG_inBlock | exact stepG_region_end | exact stepG_region) ?_)
  refine Co.allocV rfl rfl (by decide) rfl hti hzs.1 hM fun w1 hk1 => ?_
  walk_nrm
  refine Co.value (v := .bool false) rfl rfl (by decide) (fun _ => by simp [go_sem, execOp, Act.eval]) (fun _ => by simp [go_sem, execOp, Act.eval]) ?_
  walk_nrm
  iterate 3 (with_reducible refine Co.ctlG (fun _ => by first | exact stepG_seq | exact stepG_skip | exact stepG_block | exact stepG_loop | exact stepG_inLoop | exact stepG_inBlock | exact stepG_region_end | exact stepG_region) ?_)
  have z1 := hk1.size
  have hM1 : ∀ b, (M b ∨ b = w1.heap.size) → b < (w1.heap.push (.cells Zr 131)).size := fun b hb => by
    simp only [Array.size_push]
    rcases hb with hb | hb
    · have := hM b hb; omega
    · omega
  refine Co.allocV rfl rfl (by decide) rfl hti hzs.1 hM1 fun w2 hk2 => ?_
  walk_nrm
  have z2 := hk2.size
  simp only [Array.size_push] at z2
  have hM2 : ∀ b, ((M b ∨ b = w1.heap.size) ∨ b = w2.heap.size) → b < (w2.heap.push (.cells Zr 131)).size := fun b hb => by
    simp only [Array.size_push]
    rcases hb with hb | hb
    · have := hM1 b hb; simp only [Array.size_push] at this; omega
    · omega
  have hS2 : ∀ b, Sh b → b < (w2.heap.push (.cells Zr 131)).size := fun b hb => by
    have := hSw b hb
    simp only [Array.size_push]
    omega
  have ha1 : (w2.heap.push (.cells Zr 131))[w1.heap.size]? = some (.cells Zr 131 (0, 0)) := by
    rw [Array.getElem?_push_lt (by omega), ← Array.getElem?_eq_getElem (by omega), hk2.heap _ (.inr rfl)]
    show (w1.heap.push _)[w1.heap.size]? = _
    rw [Array.getElem?_push, if_pos rfl]
  have ha2 : (w2.heap.push (.cells Zr 131))[w2.heap.size]? = some (.cells Zr 131 (0, 0)) := by rw [Array.getElem?_push, if_pos rfl]
  have hs1 : ¬ Sh w1.heap.size := fun hs => absurd (hSw _ hs) (by omega)
  have hs2 : ¬ Sh w2.heap.size := fun hs => absurd (hSw _ hs) (by omega)
  iterate 4 (with_reducible refine Co.ctlG (fun _ => by first | exact stepG_seq | exact stepG_skip | exact stepG_block | exact stepG_loop | exact stepG_inLoop | exact stepG_inBlock | exact stepG_region_end | exact stepG_region) ?_)
  (refine Co.value rfl rfl (by decide) (fun _ => by simp [execOp, Act.eval]; rfl) (fun _ => by simp [execOp, Act.eval]) ?_; walk_nrm)
  refine Co.value (v := .int .i64 kn) rfl rfl (by decide) (fun _ => by simp [go_sem, execOp, Act.eval, Tryz.underlying22]) (fun _ => by simp [go_sem, execOp, Act.eval]) ?_
  walk_nrm
  refine Co.value (v := .bool true) rfl rfl (by decide) (fun _ => by simp [go_sem, execOp, Act.eval, hk]) (fun _ => by simp [go_sem, execOp, Act.eval]) ?_
  walk_nrm
  (refine Co.value rfl rfl (by decide) (fun _ => by simp [execOp, Act.eval]; rfl) (fun _ => by simp [execOp, Act.eval]) ?_; walk_nrm)
  refine Co.unwanted rfl rfl ?_
  walk_nrm
  refine Co.unwanted rfl rfl ?_
  walk_nrm
  refine Co.unwanted rfl rfl ?_
  walk_nrm
  refine Co.value (v := .bool true) rfl rfl (by decide) (fun _ => by simp [go_sem, execOp, Act.eval]) (fun _ => by simp [go_sem, execOp, Act.eval]) ?_
  walk_nrm
  (with_reducible refine Co.ctlG (fun _ => by first | exact stepG_seq | exact stepG_skip | exact stepG_block | exact stepG_loop | exact stepG_inLoop | exact stepG_inBlock | exact stepG_region_end | exact stepG_region) ?_)
  refine Co.ctlG (fun _ => stepG_cond (t := true) rfl) ?_
  simp only [if_true]
  iterate 2 (with_reducible refine Co.ctlG (fun _ => by first | exact stepG_seq | exact stepG_skip | exact stepG_block | exact stepG_loop | exact stepG_inLoop | exact stepG_inBlock | exact stepG_region_end | exact stepG_region) ?_)
  refine Co.loadRow (d := .array 16 129) rfl rfl (by decide) rfl rfl ha2 (.inr rfl) hs2 hS2 hZ rfl rfl (by rw [hti]; simpa [hZ16] using hzs.2) ?_
  walk_nrm
  refine Co.storeRow (Z := Zr) (X := Zr) (e := 131) (β := w1.heap.size) rfl rfl (by decide) rfl rfl rfl ha1 (.inl (.inr rfl)) hs1 hS2 hM2 hZ hZ hZ1 rfl (by rw [hti]; simpa [hZ16] using hzs.2) fun w3 hk3 => ?_
  walk_nrm
  refine Co.value (v := .bool false) rfl rfl (by decide) (fun _ => by simp [go_sem, execOp, Act.eval]) (fun _ => by simp [go_sem, execOp, Act.eval]) ?_
  walk_nrm
  (with_reducible refine Co.ctlG (fun _ => by first | exact stepG_seq | exact stepG_skip | exact stepG_block | exact stepG_loop | exact stepG_inLoop | exact stepG_inBlock | exact stepG_region_end | exact stepG_region) ?_)
  refine Co.ctlG (fun _ => stepG_ret') ?_
  have z3 := hk3.size
  simp only [Array.size_push] at z3
  have hb1 : (w3.setRow w1.heap.size Zr).heap[w1.heap.size]? = some (.cells Zr 131 (0, 0)) := setRow_heap _ _ _ _ _ _ ((hk3.heap _ (.inl (.inr rfl))).trans ha1)
  have hsz : (w3.setRow w1.heap.size Zr).heap.size = w3.heap.size := by simp [World.setRow]
  refine Co.leaves (N := fun b => b = w1.heap.size) (n := 0) (A := fun _ => False) rfl rfl Tryz.func107 (fun b hb => .inl (.inr hb)) ?_ (fun w4 hk4 => ⟨fun b hb => ?_, fun b hs hb => absurd (hb ▸ hs) hs1, fun b hb => ?_, Nat.zero_le _⟩) (fun w4 hk4 => ?_) (next _ _ ⟨fun b hb => ?_, ?_, ?_, ?_, ?_⟩ (fun b hb => .inl (.inl hb)) (fun b hb => ?_) fun b hb => ?_)
  · rw [results_N _ w1.heap.size rfl rfl]
    refine (sim_loadVar (show RelA (idr (fun b => b = w1.heap.size) 0 fun _ => False) ⟨w1.heap.size, 0, none⟩ ⟨w1.heap.size, 0, none⟩ from ⟨⟨rfl, rfl⟩, rfl, rfl, fun _ => rfl, Nat.zero_le _⟩) 131).bd fun ρ1 v v' _ hv => .pr (.tuple rfl fun i x x' h1 h2 => ?_)
    match i with
    | 0 => cases h1; cases h2; exact hv
    | 1 => cases h1; cases h2; exact .bool false
    | i + 2 => cases h1
  · subst hb
    exact ⟨_, (hk4.heap _ (.inl (.inr rfl))).trans hb1, relO_flatF hZ⟩
  · have := hSw b hb
    have := hk4.size
    omega
  · rw [results_N _ w1.heap.size rfl rfl]
    simp [run_loadVar_row w4 w1.heap.size 131 131 Zr (0, 0) (.array 16 129) ((hk4.heap _ (.inl (.inr rfl))).trans hb1) rfl rfl (by rw [hti]; simpa [hZ16] using hzs.2)]
  · have h0 := hM b hb
    rw [setRow_other _ _ _ _ (by omega), hk3.heap b (.inl (.inl hb))]
    show (w2.heap.push _)[b]? = _
    rw [Array.getElem?_push_lt (by omega), ← Array.getElem?_eq_getElem (by omega), hk2.heap b (.inl hb)]
    show (w1.heap.push _)[b]? = _
    rw [Array.getElem?_push_lt (by omega), ← Array.getElem?_eq_getElem (by omega), hk1.heap b hb]
  · omega
  · exact (hk3.os.trans hk2.os).trans hk1.os
  · exact (hk3.output.trans hk2.output).trans hk1.output
  · exact (hk3.tape.trans hk2.tape).trans hk1.tape
  · rcases hb with (hb | hb) | hb
    · exact .inl hb
    · exact .inr (by omega)
    · exact .inr (by omega)
  · have := hM2 b hb
    simp only [Array.size_push] at this
    omega
theorem ns2_R (kp np : Option Addr) (kc nn nc : Nat) (c : Frame) (cs : List Frame) (hk : (nn : Int) ≠ 12) (hM : ∀ b, M b → b < w.heap.size) (hSw : ∀ b, Sh b → b < w.heap.size)
    (next : ∀ w1 M', Keeps M w w1 → (∀ b, M b → M' b) → (∀ b, M' b → M b ∨ w.heap.size ≤ b) → (∀ b, M' b → b < w1.heap.size) → Co Tryz.prog true Sh Stop M' (G (c.finish (.tuple #[.agg (Array.replicate 16 (.int .u32 0)), .bool false])) cs) w1) :
    Co Tryz.prog true Sh Stop M (G (Frame.enter Tryz.prog 107 #[.slice kp 32 kc, .slice np nn nc] .normal) (c :: cs)) w := by
  obtain ⟨ti, hti, hzs⟩ := Option.map_eq_some_iff.1 infoS
  simp only [Prod.mk.injEq] at hzs
  obtain ⟨Zr, hZr⟩ : ∃ Z : Array Value, Z = Array.replicate 16 (.int .u32 0) := ⟨_, rfl⟩
  have hZ : ∀ v ∈ Zr, flatC v = true := fun v hv => by rw [hZr] at hv; rw [Array.eq_of_mem_replicate hv]; rfl
  have hZ1 : Zr.all (·.oneCell') = true := by rw [Array.all_eq_true']; intro v hv; rw [hZr] at hv; rw [Array.eq_of_mem_replicate hv]; rfl
  have hZ16 : Zr.size = 16 := by rw [hZr]; simp
  rw [← hZr] at hzs next
  clear hZr
  rw [enter_N]
  simp only [bodyN, Tryz.f107, Option.getD_some]
  walk_nrm
  iterate 2 (with_reducible refine Co.ctlG (fun _ => by first | exact stepG_seq | exact stepG_skip | exact stepG_block | exact stepG_loop | exact stepG_inLoop | exact stepG_inBlock | exact stepG_region_end | exact stepG_region) ?_)
  refine Co.allocV rfl rfl (by decide) rfl hti hzs.1 hM fun w1 hk1 => ?_
  walk_nrm
  refine Co.value (v := .bool false) rfl rfl (by decide) (fun _ => by simp [go_sem, execOp, Act.eval]) (fun _ => by simp [go_sem, execOp, Act.eval]) ?_
  walk_nrm
  iterate 3 (with_reducible refine Co.ctlG (fun _ => by first | exact stepG_seq | exact stepG_skip | exact stepG_block | exact stepG_loop | exact stepG_inLoop | exact stepG_inBlock | exact stepG_region_end | exact stepG_region) ?_)
  have z1 := hk1.size
  have hM1 : ∀ b, (M b ∨ b = w1.heap.size) → b < (w1.heap.push (.cells Zr 131)).size := fun b hb => by
    simp only [Array.size_push]
    rcases hb with hb | hb
    · have := hM b hb; omega
    · omega
  refine Co.allocV rfl rfl (by decide) rfl hti hzs.1 hM1 fun w2 hk2 => ?_
  walk_nrm
  have z2 := hk2.size
  simp only [Array.size_push] at z2
  have hM2 : ∀ b, ((M b ∨ b = w1.heap.size) ∨ b = w2.heap.size) → b < (w2.heap.push (.cells Zr 131)).size := fun b hb => by
    simp only [Array.size_push]
    rcases hb with hb | hb
    · have := hM1 b hb; simp only [Array.size_push] at this; omega
    · omega
  have hS2 : ∀ b, Sh b → b < (w2.heap.push (.cells Zr 131)).size := fun b hb => by
    have := hSw b hb
    simp only [Array.size_push]
    omega
  have ha1 : (w2.heap.push (.cells Zr 131))[w1.heap.size]? = some (.cells Zr 131 (0, 0)) := by
    rw [Array.getElem?_push_lt (by omega), ← Array.getElem?_eq_getElem (by omega), hk2.heap _ (.inr rfl)]
    show (w1.heap.push _)[w1.heap.size]? = _
    rw [Array.getElem?_push, if_pos rfl]
  have ha2 : (w2.heap.push (.cells Zr 131))[w2.heap.size]? = some (.cells Zr 131 (0, 0)) := by rw [Array.getElem?_push, if_pos rfl]
  have hs1 : ¬ Sh w1.heap.size := fun hs => absurd (hSw _ hs) (by omega)
  have hs2 : ¬ Sh w2.heap.size := fun hs => absurd (hSw _ hs) (by omega)
  iterate 4 (with_reducible refine Co.ctlG (fun _ => by first | exact stepG_seq | exact stepG_skip | exact stepG_block | exact stepG_loop | exact stepG_inLoop | exact stepG_inBlock | exact stepG_region_end | exact stepG_region) ?_)
  (refine Co.value rfl rfl (by decide) (fun _ => by simp [execOp, Act.eval]; rfl) (fun _ => by simp [execOp, Act.eval]) ?_; walk_nrm)
  refine Co.value (v := .int .i64 32) rfl rfl (by decide) (fun _ => by simp [go_sem, execOp, Act.eval, Tryz.underlying22]) (fun _ => by simp [go_sem, execOp, Act.eval]) ?_
  walk_nrm
  refine Co.value (v := .bool false) rfl rfl (by decide) (fun _ => by simp [go_sem, execOp, Act.eval]) (fun _ => by simp [go_sem, execOp, Act.eval]) ?_
  walk_nrm
  iterate 2 (refine Co.value rfl rfl (by decide) (fun _ => by simp [execOp, Act.eval]; rfl) (fun _ => by simp [execOp, Act.eval]) ?_; walk_nrm)
  refine Co.value (v := .int .i64 nn) rfl rfl (by decide) (fun _ => by simp [go_sem, execOp, Act.eval, Tryz.underlying22]) (fun _ => by simp [go_sem, execOp, Act.eval]) ?_
  walk_nrm
  refine Co.value (v := .bool true) rfl rfl (by decide) (fun _ => by simp [go_sem, execOp, Act.eval, hk]) (fun _ => by simp [go_sem, execOp, Act.eval]) ?_
  walk_nrm
  refine Co.value (v := .bool true) rfl rfl (by decide) (fun _ => by simp [go_sem, execOp, Act.eval]) (fun _ => by simp [go_sem, execOp, Act.eval]) ?_
  walk_nrm
  (with_reducible refine Co.ctlG (fun _ => by first | exact stepG_seq | exact stepG_skip | exact stepG_block | exact stepG_loop | exact stepG_inLoop | exact stepG_inBlock | exact stepG_region_end | exact stepG_region) ?_)
  refine Co.ctlG (fun _ => stepG_cond (t := true) rfl) ?_
  simp only [if_true]
  iterate 2 (with_reducible refine Co.ctlG (fun _ => by first | exact stepG_seq | exact stepG_skip | exact stepG_block | exact stepG_loop | exact stepG_inLoop | exact stepG_inBlock | exact stepG_region_end | exact stepG_region) ?_)
  refine Co.loadRow (d := .array 16 129) rfl rfl (by decide) rfl rfl ha2 (.inr rfl) hs2 hS2 hZ rfl rfl (by rw [hti]; simpa [hZ16] using hzs.2) ?_
  walk_nrm
  refine Co.storeRow (Z := Zr) (X := Zr) (e := 131) (β := w1.heap.size) rfl rfl (by decide) rfl rfl rfl ha1 (.inl (.inr rfl)) hs1 hS2 hM2 hZ hZ hZ1 rfl (by rw [hti]; simpa [hZ16] using hzs.2) fun w3 hk3 => ?_
  walk_nrm
  refine Co.value (v := .bool false) rfl rfl (by decide) (fun _ => by simp [go_sem, execOp, Act.eval]) (fun _ => by simp [go_sem, execOp, Act.eval]) ?_
  walk_nrm
  (with_reducible refine Co.ctlG (fun _ => by first | exact stepG_seq | exact stepG_skip | exact stepG_block | exact stepG_loop | exact stepG_inLoop | exact stepG_inBlock | exact stepG_region_end | exact stepG_region) ?_)
  refine Co.ctlG (fun _ => stepG_ret') ?_
  have z3 := hk3.size
  simp only [Array.size_push] at z3
  have hb1 : (w3.setRow w1.heap.size Zr).heap[w1.heap.size]? = some (.cells Zr 131 (0, 0)) := setRow_heap _ _ _ _ _ _ ((hk3.heap _ (.inl (.inr rfl))).trans ha1)
  have hsz : (w3.setRow w1.heap.size Zr).heap.size = w3.heap.size := by simp [World.setRow]
  refine Co.leaves (N := fun b => b = w1.heap.size) (n := 0) (A := fun _ => False) rfl rfl Tryz.func107 (fun b hb => .inl (.inr hb)) ?_ (fun w4 hk4 => ⟨fun b hb => ?_, fun b hs hb => absurd (hb ▸ hs) hs1, fun b hb => ?_, Nat.zero_le _⟩) (fun w4 hk4 => ?_) (next _ _ ⟨fun b hb => ?_, ?_, ?_, ?_, ?_⟩ (fun b hb => .inl (.inl hb)) (fun b hb => ?_) fun b hb => ?_)
  · rw [results_N _ w1.heap.size rfl rfl]
    refine (sim_loadVar (show RelA (idr (fun b => b = w1.heap.size) 0 fun _ => False) ⟨w1.heap.size, 0, none⟩ ⟨w1.heap.size, 0, none⟩ from ⟨⟨rfl, rfl⟩, rfl, rfl, fun _ => rfl, Nat.zero_le _⟩) 131).bd fun ρ1 v v' _ hv => .pr (.tuple rfl fun i x x' h1 h2 => ?_)
    match i with
    | 0 => cases h1; cases h2; exact hv
    | 1 => cases h1; cases h2; exact .bool false
    | i + 2 => cases h1
  · subst hb
    exact ⟨_, (hk4.heap _ (.inl (.inr rfl))).trans hb1, relO_flatF hZ⟩
  · have := hSw b hb
    have := hk4.size
    omega
  · rw [results_N _ w1.heap.size rfl rfl]
    simp [run_loadVar_row w4 w1.heap.size 131 131 Zr (0, 0) (.array 16 129) ((hk4.heap _ (.inl (.inr rfl))).trans hb1) rfl rfl (by rw [hti]; simpa [hZ16] using hzs.2)]
  · have h0 := hM b hb
    rw [setRow_other _ _ _ _ (by omega), hk3.heap b (.inl (.inl hb))]
    show (w2.heap.push _)[b]? = _
    rw [Array.getElem?_push_lt (by omega), ← Array.getElem?_eq_getElem (by omega), hk2.heap b (.inl hb)]
    show (w1.heap.push _)[b]? = _
    rw [Array.getElem?_push_lt (by omega), ← Array.getElem?_eq_getElem (by omega), hk1.heap b hb]
  · omega
  · exact (hk3.os.trans hk2.os).trans hk1.os
  · exact (hk3.output.trans hk2.output).trans hk1.output
  · exact (hk3.tape.trans hk2.tape).trans hk1.tape
  · rcases hb with (hb | hb) | hb
    · exact .inl hb
    · exact .inr (by omega)
    · exact .inr (by omega)
  · have := hM2 b hb
    simp only [Array.size_push] at this
    omega
end
section
variable {P : Program} {main : Bool} {b : Frame} {a : Act} {k todo : List Item} {cs : List Frame} {w : World} {ops : Array Oper} {i : Nat} {rest : List Nat} {o : Oper} {f : FuncId} {fn : Func} {cap : Array Value} {ds : List Deferred}
def dval (f : FuncId) (cap : Array Value) : Deferred := { target := .fn (.func f) cap, args := #[] }
theorem stepG_deferV {x : Operand} {ats : Array TypeId} (ho : ops[i]? = some o) (hw : Region.wanted o (yielded ops a.tmps) = true) (hk : b.kind ≠ .early) (hop : o.op = .defer { callee := .value x, args := #[], argTypes := ats }) (hx : a.eval x = .func (.func f) #[] cap) :
    stepG P main (G (b.at a (.inRegion ops (i :: rest) :: k)) cs) w = .go (G (b.at (Act.put ⟨a.tmps, dval f cap :: a.defers⟩ o.dst undef) (.inRegion ops rest :: k)) cs) w #[] := by
  have hr : (execOp a.eval o).run P w = .ok (.defer (dval f cap)) w := by
    unfold execOp
    simp [hop, resolve, Deferred.ofValue, hx, dval]
  have he : (execOp a.eval o).events P w #[] = #[] := by
    unfold execOp
    simp [hop, resolve, Deferred.ofValue, hx]
  have hfin : (b.at ⟨a.tmps, dval f cap :: a.defers⟩ (.inRegion ops (i :: rest) :: k)).finish undef = b.at (Act.put ⟨a.tmps, dval f cap :: a.defers⟩ o.dst undef) (.inRegion ops rest :: k) := by rw [Frame.finish_at, ho]; rfl
  have hk' : (b.kind == CallKind.early) = false := by simpa using hk
  rw [stepG_oper ho hw, ← hfin]
  simp [stepG.apply, hr, he, G, Frame.at, hk', GStep.after, seen_none]
theorem stepG_unwindV {c : Code} {m : FrameMode} (hm : m ≠ .run) (hd : a.defers = dval f cap :: ds) (hf : P.funcs[f]? = some fn) (hname : (fn.name == "runtime.NumGoroutine") = false) (hb : fn.body = some c) :
    stepG P main (G { b.at a todo with mode := m } cs) w =
      .go (G ((baseD f).at { tmps := cap ++ Array.replicate (fn.ntmps - cap.size) undef, defers := [] } [.code c]) ({ b.at ⟨a.tmps, ds⟩ todo with mode := m } :: cs)) w #[] := by
  have h1 : ¬ fn.name = "runtime.NumGoroutine" := by simpa using hname
  rw [← enter_atD cap hf hb]
  cases m with
  | run => exact absurd rfl hm
  | returning => simp [G, stepG, unwind, callDeferred, Frame.at, hd, dval, invoke, callFunc, hf, h1, hb, GStep.after, seen_none]
  | panicking ch => simp [G, stepG, unwind, callDeferred, Frame.at, hd, dval, invoke, callFunc, hf, h1, hb, GStep.after, seen_none]
theorem stepG_recover_none {c : Frame} {ats : Array TypeId} (ho : ops[i]? = some o) (hw : Region.wanted o (yielded ops a.tmps) = true) (hk : b.kind = .deferred) (hop : o.op = .call { callee := .builtin .recover, args := #[], argTypes := ats }) (hc : c.mode = .returning) :
    stepG P main (G (b.at a (.inRegion ops (i :: rest) :: k)) (c :: cs)) w = .go (G (b.at (a.put o.dst .nilIface) (.inRegion ops rest :: k)) (c :: cs)) w #[] := by
  have hr : (execOp a.eval o).run P w = .ok .recover w := by
    unfold execOp
    simp [hop, resolve, invoke, builtin]
  have he : (execOp a.eval o).events P w #[] = #[] := by
    unfold execOp
    simp [hop, resolve, invoke, builtin]
  have hfin : (b.at a (.inRegion ops (i :: rest) :: k)).finish .nilIface = b.at (a.put o.dst .nilIface) (.inRegion ops rest :: k) := by rw [Frame.finish_at, ho]; rfl
  rw [stepG_oper ho hw, ← hfin]
  simp [stepG.apply, hr, he, G, Frame.at, hk, tryRecover, hc, GStep.after, seen_none]
theorem stepG_recover_some {c : Frame} {ats : Array TypeId} {v : Value} {older : List PanicEntry} (ho : ops[i]? = some o) (hw : Region.wanted o (yielded ops a.tmps) = true) (hk : b.kind = .deferred) (hop : o.op = .call { callee := .builtin .recover, args := #[], argTypes := ats }) (hc : c.mode = .panicking ({ v, recovered := false } :: older)) :
    stepG P main (G (b.at a (.inRegion ops (i :: rest) :: k)) (c :: cs)) w = .go (G (b.at (a.put o.dst v) (.inRegion ops rest :: k)) ({ c with mode := .panicking ({ v, recovered := true } :: older) } :: cs)) w #[] := by
  have hr : (execOp a.eval o).run P w = .ok .recover w := by
    unfold execOp
    simp [hop, resolve, invoke, builtin]
  have he : (execOp a.eval o).events P w #[] = #[] := by
    unfold execOp
    simp [hop, resolve, invoke, builtin]
  have hfin : (b.at a (.inRegion ops (i :: rest) :: k)).finish v = b.at (a.put o.dst v) (.inRegion ops rest :: k) := by rw [Frame.finish_at, ho]; rfl
  rw [stepG_oper ho hw, ← hfin]
  simp [stepG.apply, hr, he, G, Frame.at, hk, tryRecover, hc, GStep.after, seen_none]
theorem stepG_leave_recovered {c : Frame} {v u : Value} (hn : b.kind = .deferred) (hd : a.defers = []) (hf : P.funcs[b.fn]? = some fn) (hr : (results fn a.tmps).run P w = .ok v w) (he : (results fn a.tmps).events P w #[] = #[]) (hc : c.mode = .panicking [{ v := u, recovered := true }]) :
    stepG P main (G { b.at a todo with mode := .returning } (c :: cs)) w = .go (G { c with mode := .returning } cs) w := by
  simp [G, stepG, unwind, doReturn, Frame.at, hn, hd, hf, hr, he, hc, seen, GStep.after]
theorem stepG_panics {x : Operand} {t : TypeId} {v : Value} (ho : ops[i]? = some o) (hw : Region.wanted o (yielded ops a.tmps) = true) (hk : b.kind ≠ .early) (hop : o.op = .panic x) (hx : a.eval x = .iface t v) :
    stepG P main (G (b.at a (.inRegion ops (i :: rest) :: k)) cs) w = .go (G { b.at a (.inRegion ops (i :: rest) :: k) with mode := .panicking [{ v := .iface t v, recovered := false }] } cs) w #[] := by
  have hr : (execOp a.eval o).run P w = .halt (.panic (.iface t v)) w := by
    unfold execOp
    simp [hop, hx, Instr.panic, goPanic]
  have he : (execOp a.eval o).events P w #[] = #[] := by
    unfold execOp
    simp [hop, hx, Instr.panic, goPanic]
  have hk' : (b.kind == CallKind.early) = false := by simpa using hk
  rw [stepG_oper ho hw]
  simp [stepG.apply, hr, he, G, Frame.at, Frame.raise, hk', GStep.after, seen_none]
theorem stepG_raises {c : Frame} {ch : List PanicEntry} (hd : a.defers = []) (hf : P.funcs[b.fn]? = some fn) (hc : c.mode = .run) :
    stepG P main (G { b.at a todo with mode := .panicking ch } (c :: cs)) w = .go (G { c with mode := .panicking ch } cs) w #[] := by
  simp [G, stepG, unwind, Frame.at, hd, Frame.catches, hf, Frame.raise, hc]
end
section
variable {P : Program} {main : Bool} {b : Frame} {a : Act} {cs : List Frame} {w : World}
theorem stepG_end0 : stepG P main (G (b.at a []) cs) w = .go (G { b.at a [] with mode := .returning } cs) w #[] := by simp [G, stepG, stepG.exec, Frame.at]
end
def bW : Frame := { (default : Frame) with fn := 106, kind := .normal }
noncomputable def bodyW : Code := Tryz.f106.body.getD .skip
theorem enter_W (x y : Value) : Frame.enter Tryz.prog 106 #[x, y] .normal = bW.at ⟨#[x, y] ++ Array.replicate 6 undef, []⟩ [.code bodyW] := by
  simp [Frame.enter, Frame.at, bW, bodyW, Tryz.func106, Tryz.f106]
def pan (s : ByteArray) : List PanicEntry := [{ v := .iface 9 (.string s), recovered := false }]
section
variable {Sh : Nat → Prop} {Stop : (Nat → Prop) → Goroutine → World → Prop} {M : Nat → Prop} {w : World}
theorem want_yes (s : ByteArray) (c : Frame) (cs : List Frame) (next : Co Tryz.prog true Sh Stop M (G (c.finish undef) cs) w) : Co Tryz.prog true Sh Stop M (G (Frame.enter Tryz.prog 106 #[.bool true, .string s] .normal) (c :: cs)) w := by
  rw [enter_W]
  simp only [bodyW, Tryz.f106, Option.getD_some]
  walk_nrm
  iterate 2 (with_reducible refine Co.ctlG (fun _ => by first | exact stepG_seq | exact stepG_skip | exact stepG_block | exact stepG_loop | exact stepG_inLoop | exact stepG_inBlock | exact stepG_region_end | exact stepG_region) ?_)
  refine Co.value (v := .bool true) rfl rfl (by decide) (fun _ => by simp [go_sem, execOp, Act.eval]) (fun _ => by simp [go_sem, execOp, Act.eval]) ?_
  walk_nrm
  refine Co.value (v := .bool false) rfl rfl (by decide) (fun _ => by simp [go_sem, execOp, Act.eval]) (fun _ => by simp [go_sem, execOp, Act.eval]) ?_
  walk_nrm
  (with_reducible refine Co.ctlG (fun _ => by first | exact stepG_seq | exact stepG_skip | exact stepG_block | exact stepG_loop | exact stepG_inLoop | exact stepG_inBlock | exact stepG_region_end | exact stepG_region) ?_)
  refine Co.ctlG (fun _ => stepG_cond (t := false) rfl) ?_
  simp only [Bool.false_eq_true, if_false]
  (with_reducible refine Co.ctlG (fun _ => by first | exact stepG_seq | exact stepG_skip | exact stepG_block | exact stepG_loop | exact stepG_inLoop | exact stepG_inBlock | exact stepG_region_end | exact stepG_region) ?_)
  refine Co.ctlG (fun _ => stepG_end0) ?_
  exact .ctl rfl (fun w1 => stepG_leave rfl rfl Tryz.func106 (by simp [results, Tryz.f106]; rfl) (by simp [results, Tryz.f106])) next
theorem want_no (s : ByteArray) (c : Frame) (cs : List Frame) (hc : c.mode = .run) (next : Co Tryz.prog true Sh Stop M (G { c with mode := .panicking (pan s) } cs) w) : Co Tryz.prog true Sh Stop M (G (Frame.enter Tryz.prog 106 #[.bool false, .string s] .normal) (c :: cs)) w := by
  rw [enter_W]
  simp only [bodyW, Tryz.f106, Option.getD_some]
  walk_nrm
  iterate 2 (with_reducible refine Co.ctlG (fun _ => by first | exact stepG_seq | exact stepG_skip | exact stepG_block | exact stepG_loop | exact stepG_inLoop | exact stepG_inBlock | exact stepG_region_end | exact stepG_region) ?_)
  refine Co.value (v := .bool false) rfl rfl (by decide) (fun _ => by simp [go_sem, execOp, Act.eval]) (fun _ => by simp [go_sem, execOp, Act.eval]) ?_
  walk_nrm
  refine Co.value (v := .bool true) rfl rfl (by decide) (fun _ => by simp [go_sem, execOp, Act.eval]) (fun _ => by simp [go_sem, execOp, Act.eval]) ?_
  walk_nrm
  (with_reducible refine Co.ctlG (fun _ => by first | exact stepG_seq | exact stepG_skip | exact stepG_block | exact stepG_loop | exact stepG_inLoop | exact stepG_inBlock | exact stepG_region_end | exact stepG_region) ?_)
  refine Co.ctlG (fun _ => stepG_cond (t := true) rfl) ?_
  simp only [if_true]
  (with_reducible refine Co.ctlG (fun _ => by first | exact stepG_seq | exact stepG_skip | exact stepG_block | exact stepG_loop | exact stepG_inLoop | exact stepG_inBlock | exact stepG_region_end | exact stepG_region) ?_)
  refine Co.value (v := .string s) rfl rfl (by decide) (fun _ => by simp [go_sem, execOp, Act.eval]) (fun _ => by simp [go_sem, execOp, Act.eval]) ?_
  walk_nrm
  refine Co.value (v := .iface 9 (.string s)) rfl rfl (by decide) (fun _ => by simp [go_sem, execOp, Act.eval]) (fun _ => by first | rfl | kernel_rfl) ?_
  walk_nrm
  refine .ctl rfl (fun w1 => stepG_panics (t := 9) (v := .string s) rfl rfl (by decide) rfl rfl) ?_
  exact .ctl rfl (fun w1 => stepG_raises rfl Tryz.func106 hc) next
end
def bZ : Frame := { (default : Frame) with fn := 71, kind := .normal }
noncomputable def bodyZ : Code := Tryz.f71.body.getD .skip
theorem enter_Z (x y z u : Value) : Frame.enter Tryz.prog 71 #[x, y, z, u] .normal = bZ.at ⟨#[x, y, z, u] ++ Array.replicate 23 undef, []⟩ [.code bodyZ] := by
  simp [Frame.enter, Frame.at, bZ, bodyZ, Tryz.func71, Tryz.f71]
def SizesOk (kn nn an : Nat) (pl : Int) : Prop := kn = 32 ∧ nn = 12 ∧ an ≤ 1500 ∧ 0 ≤ pl ∧ pl ≤ 1500
section
variable {Sh : Nat → Prop} {Stop : (Nat → Prop) → Goroutine → World → Prop} {M : Nat → Prop} {w : World}
set_option maxHeartbeats 4000000 in
theorem sizes_R (kp np ap : Option Addr) (kn kc nn nc an ac : Nat) (pl : Int) (c : Frame) (cs : List Frame) (hc : c.mode = .run) (yes : SizesOk kn nn an pl → Co Tryz.prog true Sh Stop M (G (c.finish undef) cs) w) (no : ¬ SizesOk kn nn an pl → ∀ s, Co Tryz.prog true Sh Stop M (G { c with mode := .panicking (pan s) } cs) w) :
    Co Tryz.prog true Sh Stop M (G (Frame.enter Tryz.prog 71 #[.slice kp kn kc, .slice np nn nc, .slice ap an ac, .int .i64 pl] .normal) (c :: cs)) w := by
  rw [enter_Z]
  simp only [bodyZ, Tryz.f71, Option.getD_some]
  walk_nrm
  iterate 2 (with_reducible refine Co.ctlG (fun _ => by first | exact stepG_seq | exact stepG_skip | exact stepG_block | exact stepG_loop | exact stepG_inLoop | exact stepG_inBlock | exact stepG_region_end | exact stepG_region) ?_)
  by_cases h1 : (kn : Int) = 32
  · refine Co.value (v := .slice kp kn kc) rfl rfl (by decide) (fun _ => by simp [go_sem, execOp, Act.eval]) (fun _ => by simp [go_sem, execOp, Act.eval]) ?_
    walk_nrm
    refine Co.value (v := .int .i64 kn) rfl rfl (by decide) (fun _ => by simp [go_sem, execOp, Act.eval]) (fun _ => by simp [go_sem, execOp, Act.eval]) ?_
    walk_nrm
    refine Co.value (v := .bool true) rfl rfl (by decide) (fun _ => by simp [go_sem, execOp, Act.eval, h1]) (fun _ => by simp [go_sem, execOp, Act.eval]) ?_
    walk_nrm
    refine Co.call rfl rfl (by decide) rfl Tryz.func106 (by kernel_rfl) (by kernel_rfl) ?_
    walk_nrm
    refine want_yes _ _ _ ?_
    rw [Frame.finish_at]
    walk_nrm
    iterate 3 (with_reducible refine Co.ctlG (fun _ => by first | exact stepG_seq | exact stepG_skip | exact stepG_block | exact stepG_loop | exact stepG_inLoop | exact stepG_inBlock | exact stepG_region_end | exact stepG_region) ?_)
    by_cases h2 : (nn : Int) = 12
    · refine Co.value (v := .slice np nn nc) rfl rfl (by decide) (fun _ => by simp [go_sem, execOp, Act.eval]) (fun _ => by simp [go_sem, execOp, Act.eval]) ?_
      walk_nrm
      refine Co.value (v := .int .i64 nn) rfl rfl (by decide) (fun _ => by simp [go_sem, execOp, Act.eval]) (fun _ => by simp [go_sem, execOp, Act.eval]) ?_
      walk_nrm
      refine Co.value (v := .bool true) rfl rfl (by decide) (fun _ => by simp [go_sem, execOp, Act.eval, h2]) (fun _ => by simp [go_sem, execOp, Act.eval]) ?_
      walk_nrm
      refine Co.call rfl rfl (by decide) rfl Tryz.func106 (by kernel_rfl) (by kernel_rfl) ?_
      walk_nrm
      refine want_yes _ _ _ ?_
      rw [Frame.finish_at]
      walk_nrm
      iterate 3 (with_reducible refine Co.ctlG (fun _ => by first | exact stepG_seq | exact stepG_skip | exact stepG_block | exact stepG_loop | exact stepG_inLoop | exact stepG_inBlock | exact stepG_region_end | exact stepG_region) ?_)
      by_cases h3 : (an : Int) ≤ 1500
      · refine Co.value (v := .slice ap an ac) rfl rfl (by decide) (fun _ => by simp [go_sem, execOp, Act.eval]) (fun _ => by simp [go_sem, execOp, Act.eval]) ?_
        walk_nrm
        refine Co.value (v := .int .i64 an) rfl rfl (by decide) (fun _ => by simp [go_sem, execOp, Act.eval]) (fun _ => by simp [go_sem, execOp, Act.eval]) ?_
        walk_nrm
        refine Co.value (v := .bool true) rfl rfl (by decide) (fun _ => by simp [go_sem, execOp, Act.eval, h3]) (fun _ => by simp [go_sem, execOp, Act.eval]) ?_
        walk_nrm
        refine Co.call rfl rfl (by decide) rfl Tryz.func106 (by kernel_rfl) (by kernel_rfl) ?_
        walk_nrm
        refine want_yes _ _ _ ?_
        rw [Frame.finish_at]
        walk_nrm
        iterate 2 (with_reducible refine Co.ctlG (fun _ => by first | exact stepG_seq | exact stepG_skip | exact stepG_block | exact stepG_loop | exact stepG_inLoop | exact stepG_inBlock | exact stepG_region_end | exact stepG_region) ?_)
        by_cases h4 : (0 : Int) ≤ pl
        · by_cases h5 : pl ≤ 1500
          · refine Co.value (v := .int .i64 pl) rfl rfl (by decide) (fun _ => by simp [go_sem, execOp, Act.eval]) (fun _ => by simp [go_sem, execOp, Act.eval]) ?_
            walk_nrm
            refine Co.value (v := .bool true) rfl rfl (by decide) (fun _ => by simp [go_sem, execOp, Act.eval, h4]) (fun _ => by simp [go_sem, execOp, Act.eval]) ?_
            walk_nrm
            refine Co.value (v := .bool true) rfl rfl (by decide) (fun _ => by simp [go_sem, execOp, Act.eval]) (fun _ => by simp [go_sem, execOp, Act.eval]) ?_
            walk_nrm
            refine Co.value (v := .int .i64 pl) rfl rfl (by decide) (fun _ => by simp [go_sem, execOp, Act.eval]) (fun _ => by simp [go_sem, execOp, Act.eval]) ?_
            walk_nrm
            refine Co.value (v := .bool true) rfl rfl (by decide) (fun _ => by simp [go_sem, execOp, Act.eval, h5]) (fun _ => by simp [go_sem, execOp, Act.eval]) ?_
            walk_nrm
            refine Co.value (v := .bool true) rfl rfl (by decide) (fun _ => by simp [go_sem, execOp, Act.eval]) (fun _ => by simp [go_sem, execOp, Act.eval]) ?_
            walk_nrm
            refine Co.call rfl rfl (by decide) rfl Tryz.func106 (by kernel_rfl) (by kernel_rfl) ?_
            walk_nrm
            refine want_yes _ _ _ ?_
            rw [Frame.finish_at]
            walk_nrm
            (with_reducible refine Co.ctlG (fun _ => by first | exact stepG_seq | exact stepG_skip | exact stepG_block | exact stepG_loop | exact stepG_inLoop | exact stepG_inBlock | exact stepG_region_end | exact stepG_region) ?_)
            refine Co.ctlG (fun _ => stepG_end0) ?_
            exact .ctl rfl (fun w1 => stepG_leave rfl rfl Tryz.func71 (by simp [results, Tryz.f71]; rfl) (by simp [results, Tryz.f71])) (yes ⟨by omega, by omega, by omega, h4, h5⟩)
          · refine Co.value (v := .int .i64 pl) rfl rfl (by decide) (fun _ => by simp [go_sem, execOp, Act.eval]) (fun _ => by simp [go_sem, execOp, Act.eval]) ?_
            walk_nrm
            refine Co.value (v := .bool true) rfl rfl (by decide) (fun _ => by simp [go_sem, execOp, Act.eval, h4]) (fun _ => by simp [go_sem, execOp, Act.eval]) ?_
            walk_nrm
            refine Co.value (v := .bool true) rfl rfl (by decide) (fun _ => by simp [go_sem, execOp, Act.eval]) (fun _ => by simp [go_sem, execOp, Act.eval]) ?_
            walk_nrm
            refine Co.value (v := .int .i64 pl) rfl rfl (by decide) (fun _ => by simp [go_sem, execOp, Act.eval]) (fun _ => by simp [go_sem, execOp, Act.eval]) ?_
            walk_nrm
            refine Co.value (v := .bool false) rfl rfl (by decide) (fun _ => by simp [go_sem, execOp, Act.eval, h5]) (fun _ => by simp [go_sem, execOp, Act.eval]) ?_
            walk_nrm
            refine Co.value (v := .bool false) rfl rfl (by decide) (fun _ => by simp [go_sem, execOp, Act.eval]) (fun _ => by simp [go_sem, execOp, Act.eval]) ?_
            walk_nrm
            refine Co.call rfl rfl (by decide) rfl Tryz.func106 (by kernel_rfl) (by kernel_rfl) ?_
            walk_nrm
            refine want_no _ _ _ rfl ?_
            exact .ctl rfl (fun w1 => stepG_raises rfl Tryz.func71 hc) (no (fun h => h5 h.2.2.2.2) _)
        · refine Co.value (v := .int .i64 pl) rfl rfl (by decide) (fun _ => by simp [go_sem, execOp, Act.eval]) (fun _ => by simp [go_sem, execOp, Act.eval]) ?_
          walk_nrm
          refine Co.value (v := .bool false) rfl rfl (by decide) (fun _ => by simp [go_sem, execOp, Act.eval, h4]) (fun _ => by simp [go_sem, execOp, Act.eval]) ?_
          walk_nrm
          refine Co.value (v := .bool false) rfl rfl (by decide) (fun _ => by simp [go_sem, execOp, Act.eval]) (fun _ => by simp [go_sem, execOp, Act.eval]) ?_
          walk_nrm
          refine Co.unwanted rfl rfl ?_
          walk_nrm
          refine Co.unwanted rfl rfl ?_
          walk_nrm
          refine Co.value (v := .bool false) rfl rfl (by decide) (fun _ => by simp [go_sem, execOp, Act.eval]) (fun _ => by simp [go_sem, execOp, Act.eval]) ?_
          walk_nrm
          refine Co.call rfl rfl (by decide) rfl Tryz.func106 (by kernel_rfl) (by kernel_rfl) ?_
          walk_nrm
          refine want_no _ _ _ rfl ?_
          exact .ctl rfl (fun w1 => stepG_raises rfl Tryz.func71 hc) (no (fun h => h4 h.2.2.2.1) _)
      · refine Co.value (v := .slice ap an ac) rfl rfl (by decide) (fun _ => by simp [go_sem, execOp, Act.eval]) (fun _ => by simp [go_sem, execOp, Act.eval]) ?_
        walk_nrm
        refine Co.value (v := .int .i64 an) rfl rfl (by decide) (fun _ => by simp [go_sem, execOp, Act.eval]) (fun _ => by simp [go_sem, execOp, Act.eval]) ?_
        walk_nrm
        refine Co.value (v := .bool false) rfl rfl (by decide) (fun _ => by simp [go_sem, execOp, Act.eval, h3]) (fun _ => by simp [go_sem, execOp, Act.eval]) ?_
        walk_nrm
        refine Co.call rfl rfl (by decide) rfl Tryz.func106 (by kernel_rfl) (by kernel_rfl) ?_
        walk_nrm
        refine want_no _ _ _ rfl ?_
        exact .ctl rfl (fun w1 => stepG_raises rfl Tryz.func71 hc) (no (fun h => h3 (by have := h.2.2.1; omega)) _)
    · refine Co.value (v := .slice np nn nc) rfl rfl (by decide) (fun _ => by simp [go_sem, execOp, Act.eval]) (fun _ => by simp [go_sem, execOp, Act.eval]) ?_
      walk_nrm
      refine Co.value (v := .int .i64 nn) rfl rfl (by decide) (fun _ => by simp [go_sem, execOp, Act.eval]) (fun _ => by simp [go_sem, execOp, Act.eval]) ?_
      walk_nrm
      refine Co.value (v := .bool false) rfl rfl (by decide) (fun _ => by simp [go_sem, execOp, Act.eval, h2]) (fun _ => by simp [go_sem, execOp, Act.eval]) ?_
      walk_nrm
      refine Co.call rfl rfl (by decide) rfl Tryz.func106 (by kernel_rfl) (by kernel_rfl) ?_
      walk_nrm
      refine want_no _ _ _ rfl ?_
      exact .ctl rfl (fun w1 => stepG_raises rfl Tryz.func71 hc) (no (fun h => h2 (by rw [h.2.1]; rfl)) _)
  · refine Co.value (v := .slice kp kn kc) rfl rfl (by decide) (fun _ => by simp [go_sem, execOp, Act.eval]) (fun _ => by simp [go_sem, execOp, Act.eval]) ?_
    walk_nrm
    refine Co.value (v := .int .i64 kn) rfl rfl (by decide) (fun _ => by simp [go_sem, execOp, Act.eval]) (fun _ => by simp [go_sem, execOp, Act.eval]) ?_
    walk_nrm
    refine Co.value (v := .bool false) rfl rfl (by decide) (fun _ => by simp [go_sem, execOp, Act.eval, h1]) (fun _ => by simp [go_sem, execOp, Act.eval]) ?_
    walk_nrm
    refine Co.call rfl rfl (by decide) rfl Tryz.func106 (by kernel_rfl) (by kernel_rfl) ?_
    walk_nrm
    refine want_no _ _ _ rfl ?_
    exact .ctl rfl (fun w1 => stepG_raises rfl Tryz.func71 hc) (no (fun h => h1 (by rw [h.1]; rfl)) _)
end
section
variable {P : Program} {main : Bool} {Sh : Nat → Prop} {Stop : (Nat → Prop) → Goroutine → World → Prop} {M N : Nat → Prop} {w : World} {b : Frame} {a : Act} {k : List Item} {cs : List Frame} {ops : Array Oper} {i : Nat} {rest : List Nat} {o : Oper}
theorem Co.allocOne {e : TypeId} {z : Value} {ti : TypeInfo} (ho : ops[i]? = some o) (hw : Region.wanted o (yielded ops a.tmps) = true) (hk : b.kind ≠ .early) (hop : o.op = .alloc e) (hi : P.info? e = some ti) (hz : ti.zero = some z) (hz1 : z.cells = #[z]) (hM : ∀ b, M b → b < w.heap.size)
    (next : ∀ w1, Keeps M w w1 → Co P main Sh Stop (fun b => M b ∨ b = w1.heap.size) (G (b.at (a.put o.dst (.pointer (some ⟨w1.heap.size, 0, none⟩))) (.inRegion ops rest :: k)) cs) { w1 with heap := w1.heap.push (.cells #[z] e) }) : Co P main Sh Stop M (G (b.at a (.inRegion ops (i :: rest) :: k)) cs) w := by
  have hr : ∀ w1, (execOp a.eval o).run P w1 = .ok (.value (.pointer (some ⟨w1.heap.size, 0, none⟩))) { w1 with heap := w1.heap.push (.cells #[z] e) } := fun w1 => by
    unfold execOp
    rw [hop]
    simp [Instr.alloc, zeroValue, typeInfo, hi, hz, newVar, newRow, hz1]
  have he : ∀ w1, (execOp a.eval o).events P w1 #[] = #[] := fun w1 => by
    unfold execOp
    rw [hop]
    simp [Instr.alloc, zeroValue, typeInfo, hi, hz, newVar, newRow]
  exact Co.alloc (g' := fun n => G (b.at (a.put o.dst (.pointer (some ⟨n, 0, none⟩))) (.inRegion ops rest :: k)) cs) rfl (fun w1 _ => ⟨#[], by rw [stepG_value ho hw hk (hr w1)]; unfold listed; rw [he w1, seen_none], by simp⟩) hM next
theorem mine_one {R : Nat} {z : Value} {e : TypeId} (h : w.heap[R]? = some (.cells #[z] e (0, 0))) (hz : flatC z = true) : ∀ b, (fun b => b = R) b → ∃ o, w.heap[b]? = some o ∧ RelO (idr (fun b => b = R) 0 fun _ => False) 0 o o := fun b hb => by
  have hb' : b = R := hb
  rw [hb']
  exact ⟨_, h, relO_flatF fun v hv => by rw [Array.mem_singleton.1 hv]; exact hz⟩
theorem Co.storeOne {t e : TypeId} {x y : Operand} {β : Nat} {z v : Value} (ho : ops[i]? = some o) (hw : Region.wanted o (yielded ops a.tmps) = true) (hk : b.kind ≠ .early) (hop : o.op = .store t x y) (hx : a.eval x = .pointer (some ⟨β, 0, none⟩)) (hy : a.eval y = v)
    (hβ : w.heap[β]? = some (.cells #[z] e (0, 0))) (hNβ : N β) (hN : ∀ b, N b → M b) (hS : ∀ b, Sh b → ¬ N b) (hSw : ∀ b, Sh b → b < w.heap.size) (hlow : ∀ b, M b → b < w.heap.size) (hv : RelV (idr N 0 fun _ => False) v v) (h1 : v.oneCell' = true) (hi : (P.info? t).map (·.size) = some 1) (hm : ∀ b, N b → ∃ o, w.heap[b]? = some o ∧ RelO (idr N 0 fun _ => False) 0 o o)
    (h : ∀ w1, Keeps M w w1 → Co P main Sh Stop M (G (b.at (a.put o.dst undef) (.inRegion ops rest :: k)) cs) (w1.setRow β #[v])) : Co P main Sh Stop M (G (b.at a (.inRegion ops (i :: rest) :: k)) cs) w := by
  have hb1 : ∀ w1, Keeps M w w1 → w1.heap[β]? = some (.cells #[z] e (0, 0)) := fun w1 hk1 => (hk1.heap _ (hN _ hNβ)).trans hβ
  have hr : ∀ w1, Keeps M w w1 → (execOp a.eval o).run P w1 = .ok .skip (w1.setRow β #[v]) := fun w1 hk1 => by
    unfold execOp
    rw [hop]
    simp [hx, hy, Instr.storeAt, Instr.sureAddr, run_storeVar_one w1 β e t z v (hb1 w1 hk1) hi h1]
  refine Co.skips (N := N) (n := 0) (A := fun _ => False) ho hw hk hN hlow ?_ (fun w1 hk1 => ⟨fun b hb => ?_, fun b hs hb => absurd hb (hS b hs), fun b hb => Nat.lt_of_lt_of_le (hSw b hb) hk1.size, Nat.zero_le _⟩) (fun w1 hk1 => ⟨_, hr w1 hk1⟩) fun w1 hk1 w2 hr2 => ?_
  · unfold execOp
    rw [hop]
    simp only [hx, hy]
    exact sim_unit ((sim_sureAddr (.ptr (show RelA (idr N 0 fun _ => False) ⟨β, 0, none⟩ ⟨β, 0, none⟩ from ⟨show β = β ∧ N β from ⟨rfl, hNβ⟩, rfl, rfl, fun _ => rfl, Nat.zero_le _⟩))).bd fun ρ1 u u' hle hu => sim_storeVar hu (hv.mono hle) t)
  · obtain ⟨o1, g1, g2⟩ := hm b hb
    exact ⟨o1, (hk1.heap _ (hN _ hb)).trans g1, g2⟩
  · rw [hr w1 hk1] at hr2
    cases hr2
    have hg : grown M w1 (w1.setRow β #[v]) = M := grown_self (by simp [World.setRow])
    rw [hg]
    exact h w1 hk1
end
noncomputable def bodyS1 : Code := Tryz.f70.body.getD .skip
section
variable {Sh : Nat → Prop} {Stop : (Nat → Prop) → Goroutine → World → Prop} {M : Nat → Prop} {w : World}
theorem closeS_ret (R O : Nat) (c : Frame) (cs : List Frame) (hc : c.mode = .returning) (next : Co Tryz.prog true Sh Stop M (G c cs) w) :
    Co Tryz.prog true Sh Stop M (G ((baseD 70).at ⟨#[.pointer (some ⟨R, 0, none⟩), .pointer (some ⟨O, 0, none⟩), undef, undef], []⟩ [.code bodyS1]) (c :: cs)) w := by
  simp only [bodyS1, Tryz.f70, Option.getD_some]
  iterate 2 (with_reducible refine Co.ctlG (fun _ => by first | exact stepG_seq | exact stepG_skip | exact stepG_block | exact stepG_loop | exact stepG_inLoop | exact stepG_inBlock | exact stepG_region_end | exact stepG_region) ?_)
  refine Co.ctlG (fun _ => stepG_recover_none rfl rfl rfl rfl hc) ?_
  walk_nrm
  refine Co.value (v := .bool false) rfl rfl (by decide) (fun _ => by simp [go_sem, execOp, Act.eval]) (fun _ => by first | rfl | kernel_rfl) ?_
  walk_nrm
  (with_reducible refine Co.ctlG (fun _ => by first | exact stepG_seq | exact stepG_skip | exact stepG_block | exact stepG_loop | exact stepG_inLoop | exact stepG_inBlock | exact stepG_region_end | exact stepG_region) ?_)
  refine Co.ctlG (fun _ => stepG_cond (t := false) rfl) ?_
  simp only [Bool.false_eq_true, if_false]
  (with_reducible refine Co.ctlG (fun _ => by first | exact stepG_seq | exact stepG_skip | exact stepG_block | exact stepG_loop | exact stepG_inLoop | exact stepG_inBlock | exact stepG_region_end | exact stepG_region) ?_)
  refine Co.ctlG (fun _ => stepG_end0) ?_
  exact .ctl rfl (fun w1 => stepG_leave_deferred rfl rfl Tryz.func70 (by simp [results, Tryz.f70]; rfl) (by simp [results, Tryz.f70]) hc) next
theorem closeS_pan (R O : Nat) (t : ByteArray) (zo : Bool) (c : Frame) (cs : List Frame) (hc : c.mode = .panicking (pan t)) (hR : w.heap[R]? = some (.cells #[.slice none 0 0] 22 (0, 0))) (hO : w.heap[O]? = some (.cells #[.bool zo] 4 (0, 0))) (hRO : R ≠ O) (hMR : M R) (hMO : M O) (hSR : ¬ Sh R) (hSO : ¬ Sh O) (hSw : ∀ b, Sh b → b < w.heap.size) (hlow : ∀ b, M b → b < w.heap.size)
    (next : ∀ w2, w2.heap[R]? = some (.cells #[.slice none 0 0] 22 (0, 0)) → w2.heap[O]? = some (.cells #[.bool false] 4 (0, 0)) → (∀ b, M b → b ≠ R → b ≠ O → w2.heap[b]? = w.heap[b]?) → w.heap.size ≤ w2.heap.size → w2.os = w.os → w2.output = w.output → w2.tape = w.tape → Co Tryz.prog true Sh Stop M (G { c with mode := .returning } cs) w2) :
    Co Tryz.prog true Sh Stop M (G ((baseD 70).at ⟨#[.pointer (some ⟨R, 0, none⟩), .pointer (some ⟨O, 0, none⟩), undef, undef], []⟩ [.code bodyS1]) (c :: cs)) w := by
  simp only [bodyS1, Tryz.f70, Option.getD_some]
  iterate 2 (with_reducible refine Co.ctlG (fun _ => by first | exact stepG_seq | exact stepG_skip | exact stepG_block | exact stepG_loop | exact stepG_inLoop | exact stepG_inBlock | exact stepG_region_end | exact stepG_region) ?_)
  refine Co.ctlG (fun _ => stepG_recover_some (older := []) rfl rfl rfl rfl hc) ?_
  walk_nrm
  refine Co.value (v := .bool true) rfl rfl (by decide) (fun _ => by simp [go_sem, execOp, Act.eval]) (fun _ => by first | rfl | kernel_rfl) ?_
  walk_nrm
  (with_reducible refine Co.ctlG (fun _ => by first | exact stepG_seq | exact stepG_skip | exact stepG_block | exact stepG_loop | exact stepG_inLoop | exact stepG_inBlock | exact stepG_region_end | exact stepG_region) ?_)
  refine Co.ctlG (fun _ => stepG_cond (t := true) rfl) ?_
  simp only [if_true]
  (with_reducible refine Co.ctlG (fun _ => by first | exact stepG_seq | exact stepG_skip | exact stepG_block | exact stepG_loop | exact stepG_inLoop | exact stepG_inBlock | exact stepG_region_end | exact stepG_region) ?_)
  refine Co.storeOne (N := fun b => b = R) (β := R) (z := .slice none 0 0) (v := .slice none 0 0) (e := 22) rfl rfl (by decide) rfl rfl rfl hR rfl (fun b hb => hb ▸ hMR) (fun b hs hb => hSR (hb ▸ hs)) hSw hlow .sliceNil rfl (by kernel_rfl) (mine_one hR rfl) fun w1 hk1 => ?_
  walk_nrm
  have z1 := hk1.size
  have zs : (w1.setRow R #[.slice none 0 0]).heap.size = w1.heap.size := by simp [World.setRow]
  have hO1 : (w1.setRow R #[.slice none 0 0]).heap[O]? = some (.cells #[.bool zo] 4 (0, 0)) := (setRow_other _ _ _ _ hRO.symm).trans ((hk1.heap O hMO).trans hO)
  refine Co.storeOne (N := fun b => b = O) (β := O) (z := .bool zo) (v := .bool false) (e := 4) rfl rfl (by decide) rfl rfl rfl hO1 rfl (fun b hb => hb ▸ hMO) (fun b hs hb => hSO (hb ▸ hs)) (fun b hb => by have := hSw b hb; omega) (fun b hb => by have := hlow b hb; omega) (.bool false) rfl (by kernel_rfl) (mine_one hO1 rfl) fun w3 hk3 => ?_
  walk_nrm
  (with_reducible refine Co.ctlG (fun _ => by first | exact stepG_seq | exact stepG_skip | exact stepG_block | exact stepG_loop | exact stepG_inLoop | exact stepG_inBlock | exact stepG_region_end | exact stepG_region) ?_)
  refine Co.ctlG (fun _ => stepG_end0) ?_
  refine .ctl rfl (fun w4 => stepG_leave_recovered rfl rfl Tryz.func70 (by simp [results, Tryz.f70]; rfl) (by simp [results, Tryz.f70]) rfl) ?_
  have z3 := hk3.size
  have hR1 : (w1.setRow R #[.slice none 0 0]).heap[R]? = some (.cells #[.slice none 0 0] 22 (0, 0)) := setRow_heap _ _ _ _ _ _ ((hk1.heap R hMR).trans hR)
  refine next _ ?_ ?_ (fun b hb h1 h2 => ?_) ?_ ?_ ?_ ?_
  · exact (setRow_other _ _ _ _ hRO).trans ((hk3.heap R hMR).trans hR1)
  · exact setRow_heap _ _ _ _ _ _ ((hk3.heap O hMO).trans hO1)
  · rw [setRow_other _ _ _ _ h2, hk3.heap b hb, setRow_other _ _ _ _ h1, hk1.heap b hb]
  · show w.heap.size ≤ (w3.setRow O #[.bool false]).heap.size
    have : (w3.setRow O #[.bool false]).heap.size = w3.heap.size := by simp [World.setRow]
    omega
  · exact hk3.os.trans hk1.os
  · exact hk3.output.trans hk1.output
  · exact hk3.tape.trans hk1.tape
end
end Go.Proofs.YtnpffnhiefgglaaGreatDoor
