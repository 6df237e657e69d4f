/-
  A part of the proof.
-/
import Derived.Test.YtnpffnhiefgglaaGreatDoorParw11
import Derived.Deep.AppendLies
import Derived.Deep.RegionLaw
import Derived.Test.YtnpffnhiefgglaaGreatDoorParw08
namespace Go.Proofs.YtnpffnhiefgglaaGreatDoor
open Go Go.Conc
set_option maxRecDepth 100000
section
variable {P : Program} {main : Bool} {Sh : Nat → Prop} {Stop : (Nat → Prop) → Goroutine → World → Prop} {M : Nat → Prop} {w : World} {b : Frame} {a : Act} {k : List Item} {cs : List Frame} {ops : Array Oper} {i : Nat} {rest : List Nat} {o : Oper}
theorem relO_flatF {ρ : Ren} {row : Array Value} {e : TypeId} {fr : Nat × Nat} (h : ∀ v ∈ row, flatC v = true) : RelO ρ 0 (.cells row e fr) (.cells row e fr) := by
  obtain ⟨lo, hi⟩ := fr
  refine .cells e rfl ⟨rfl, fun i v v' h1 h2 => ?_⟩ fun i h1 h2 => ⟨h1, h2⟩
  rw [h1] at h2
  cases h2
  exact flatC_rel (h v (Array.mem_of_getElem? h1))
theorem Co.doesG (ho : ops[i]? = some o) (hw : Region.wanted o (yielded ops a.tmps) = true) (hk : b.kind ≠ .early) (hSw : ∀ b, Sh b → b < w.heap.size) (hlow : ∀ b, M b → b < w.heap.size)
    (hg : ∀ w1, Keeps M w w1 → ∃ (ρ : Ren) (hp : Array Obj) (Sg : Nat → Prop) (sg : Sem Next) (vg : Value) (wg2 : World), (∀ L, RelW L Sg ρ { w1 with heap := hp } w1) ∧ (∀ b, Sg b → b < hp.size) ∧ ρ.G ≤ hp.size ∧ SimS P P RelN ρ sg (execOp a.eval o) ∧ sg.run P { w1 with heap := hp } = .ok (.value vg) wg2 ∧ (∀ b b', ρ b b' → M b') ∧ ∀ b b', ρ b b' → Sh b' → Sg b)
    (h : ∀ w1, Keeps M w w1 → ∀ v w2, (execOp a.eval o).run P w1 = .ok (.value v) w2 → Co P main Sh Stop (grown M w1 w2) (G (b.at (a.put o.dst v) (.inRegion ops rest :: k)) cs) w2) : Co P main Sh Stop M (G (b.at a (.inRegion ops (i :: rest) :: k)) cs) w := by
  have key : ∀ w1, Keeps M w w1 → ∃ v w2, (execOp a.eval o).run P w1 = .ok (.value v) w2 ∧ Guar Sh M w1 w2 ((execOp a.eval o).events P w1 #[]) := fun w1 hk1 => by
    obtain ⟨ρ, hp, Sg, sg, vg, wg2, rel, shg, big, sim, hrun, hM, hS⟩ := hg w1 hk1
    cases hrt : sg.runT P { w1 with heap := hp } #[] with
    | mk r es0 =>
      have hr2 : r = .ok (.value vg) wg2 := by rw [← hrun, ← Sem.runT_fst P _ _ #[], hrt]
      subst hr2
      obtain ⟨ρ1, v', w2, more, r1, rv, r3, r4, r5⟩ := sim.runs #[] (rel wg2.drawn) shg big hrt (Nat.le_refl _)
      cases rv with
      | @value _ v hv =>
        rw [Array.empty_append] at r1
        have hnew : ∀ c b', ρ1 c b' → grown M w1 w2 b' ∧ (Sh b' → Sg c) := fun c b' hc => by
          rcases r4.new c b' hc with x | ⟨j, _, y⟩
          · exact ⟨.inl (hM _ _ x), hS _ _ x⟩
          · exact ⟨.inr ⟨by omega, (r3.lt hc).2⟩, fun hs => absurd (hSw _ hs) (by have := hk1.size; omega)⟩
        refine ⟨v, w2, ?_, r4.size', fun b hb hn => r4.rest b hb fun c hc => hn (hM c b hc), fun b hs hmb => ?_, r4.os, r4.output, r4.tape, fun e he => ?_⟩
        · rw [← Sem.runT_fst P _ w1 #[], r1]
        · by_cases hc : ∃ c, ρ c b
          · obtain ⟨c, hc⟩ := hc
            exact r4.still c b (hS c b hc hs) hc
          · exact r4.rest b (Nat.lt_of_lt_of_le (hlow b hmb) hk1.size) fun c h => hc ⟨c, h⟩
        · have he' : e ∈ more := by
            have hev : (execOp a.eval o).events P w1 #[] = more := by
              show ((execOp a.eval o).runT P w1 #[]).2 = more
              rw [r1]
            rwa [hev] at he
          rcases r5 e he' with ⟨ad, c, h1, h2, h3, h4⟩ | ⟨r, c, h1, h2, h3, h4⟩ | h1
          · exact .inl ⟨ad, h1, h2, (hnew _ _ h3).1, fun hwr hsh => h4 hwr ((hnew _ _ h3).2 hsh)⟩
          · exact .inr (.inl ⟨_, h1, h2, h3, (hnew _ _ h4).1⟩)
          · exact .inr (.inr h1)
  refine .step rfl (fun w1 hk1 => ?_) fun w1 hk1 g' w2 es he => ?_
  · obtain ⟨v, w2, hr, hgr⟩ := key w1 hk1
    exact ⟨_, _, _, stepG_value ho hw hk hr, hgr.size, hgr.rest, hgr.still, hgr.os, hgr.output, hgr.tape, fun e he => hgr.ev e (seen_sub _ _ he)⟩
  · obtain ⟨v, w3, hr, _⟩ := key w1 hk1
    rw [stepG_value ho hw hk hr] at he
    cases he
    exact h w1 hk1 v _ hr
def partRow (l : Nat) (ys : List Int) : Array Value := (List.replicate l (Value.int .u8 0) ++ ys.map (Value.int .u8)).toArray
theorem partRow_at (l : Nat) (ys : List Int) (j : Nat) : (partRow l ys)[l + j]? = (ys[j]?).map (Value.int .u8) := by
  simp [partRow, List.getElem?_append_right]
theorem relO_part {ρ : Ren} {γ oo : Nat} {ys : List Int} {w : World} (hpos : 0 < ys.length) (hys : ∀ j u, ys[j]? = some u → w.cell? ⟨γ, oo + j, none⟩ = some (.int .u8 u)) : ∃ o', w.heap[γ]? = some o' ∧ RelO ρ (oo + 1) (.cells (partRow oo ys) ρ.Bg (0, (partRow oo ys).size)) o' := by
  have h0 := hys 0 ys[0] (List.getElem?_eq_getElem hpos)
  unfold World.cell? at h0
  split at h0
  · rename_i c e' fz hc
    refine ⟨_, hc, .part (by omega) (Nat.le_refl _) fun i v hi hv => ?_⟩
    obtain ⟨j, rfl⟩ : ∃ j, i = oo + j := ⟨i - oo, by omega⟩
    rw [partRow_at] at hv
    obtain ⟨u, hu, rfl⟩ := Option.map_eq_some_iff.1 hv
    have h1 := hys j u hu
    simp only [World.cell?, hc] at h1
    exact ⟨_, by simpa using h1, .int _ _⟩
  · cases h0
def renA (τ γ oo : Nat) (bog : TypeId) : Ren := ⟨fun b b' => (b = 0 ∧ b' = τ) ∨ (b = 1 ∧ b' = γ), 0, fun _ => False, fun b => if b = 1 then oo + 1 else 0, fun _ hb => absurd hb (Nat.not_lt_zero _), bog, fun _ _ => False⟩
theorem Co.appendBytes {t e bog : TypeId} {ti : TypeInfo} {x y : Operand} {τ tn bn γ oo kk c : Nat} {row : Array Value} {ys : List Int} (ho : ops[i]? = some o) (hw : Region.wanted o (yielded ops a.tmps) = true) (hk : b.kind ≠ .early) (hop : o.op = .call { callee := .builtin .append, args := #[x, y], argTypes := #[t, t] }) (hx : a.eval x = .slice (some ⟨τ, 0, none⟩) tn bn) (hy : a.eval y = .slice (some ⟨γ, oo, none⟩) kk c)
    (ht : P.underlying t = some (.slice e)) (hE : okElem P t = true) (hi : P.info? e = some ti) (hs : ti.size = 1)
    (hτ : w.heap[τ]? = some (.cells row e (0, 0))) (hrow : row.size = bn) (hf : ∀ v ∈ row, flatC v = true) (hyl : ys.length = kk) (hpos : 0 < kk) (hys : ∀ j u, ys[j]? = some u → w.cell? ⟨γ, oo + j, none⟩ = some (.int .u8 u))
    (hne : τ ≠ γ) (hMτ : M τ) (hMγ : M γ) (hSτ : ¬ Sh τ) (hroom : tn + kk ≤ bn) (hSw : ∀ b, Sh b → b < w.heap.size) (hM : ∀ b, M b → b < w.heap.size)
    (next : ∀ w1 row', Keeps M w w1 → row'.size = bn → (∀ v ∈ row', flatC v = true) → row'.toList.take (tn + kk) = row.toList.take tn ++ ys.map (Value.int .u8) → Co P main Sh Stop M (G (b.at (a.put o.dst (.slice (some ⟨τ, 0, none⟩) (tn + kk) bn)) (.inRegion ops rest :: k)) cs) (w1.setRow τ row')) : Co P main Sh Stop M (G (b.at a (.inRegion ops (i :: rest) :: k)) cs) w := by
  have hex : execOp a.eval o = (do let v ← Builtin.append_ #[t, t] o.type #[a.eval x, a.eval y]; pure (.value v)) := by
    obtain ⟨dst, op, type, pos, after, guard⟩ := o
    simp only at hop
    subst hop
    have h : execOp a.eval { dst, op := .call { callee := .builtin .append, args := #[x, y], argTypes := #[t, t] }, type, pos, after, guard } = (do let v ← Builtin.append_ #[t, t] type ((#[x, y] : Array Operand).map a.eval); pure (.value v)) := rfl
    rw [h, map_two]
  have hap : ∀ (W : World) (τ γ : Nat), W.heap[τ]? = some (.cells row e (0, 0)) → (∀ j u, ys[j]? = some u → W.cell? ⟨γ, oo + j, none⟩ = some (.int .u8 u)) →
      Sem.run P (do let v ← Builtin.append_ #[t, t] o.type #[.slice (some ⟨τ, 0, none⟩) tn bn, .slice (some ⟨γ, oo, none⟩) kk c]; pure (.value v) : Sem Next) W = .ok (.value (.slice (some ⟨τ, 0, none⟩) (tn + kk) bn)) (W.setRow τ (row.toList.take tn ++ ys.map (Value.int .u8) ++ row.toList.drop (tn + kk)).toArray) := fun W τ γ h1 h2 => by
    have := run_append_room (P := P) W t o.type e ti ht hi τ tn bn row h1 ⟨γ, oo, none⟩ kk c (ys.map (Value.int .u8)) (by rw [hs]; simpa using hyl) (fun j u hu => by
      rw [List.getElem?_map] at hu
      obtain ⟨z, hz, rfl⟩ := Option.map_eq_some_iff.1 hu
      have := h2 j z hz
      rcases Nat.eq_zero_or_pos j with rfl | hj
      · simpa [Addr.add] using this
      · simpa [Addr.add, Nat.ne_of_gt hj] using this) (fun u hu => by obtain ⟨z, _, rfl⟩ := List.mem_map.1 hu; rfl) hroom (by simp [hs, hrow, hyl, hroom])
    simp only [hs, Nat.mul_one, List.length_map, hyl] at this
    simp [this]
  have hr : ∀ w1 : World, Keeps M w w1 → (execOp a.eval o).run P w1 = .ok (.value (.slice (some ⟨τ, 0, none⟩) (tn + kk) bn)) (w1.setRow τ (row.toList.take tn ++ ys.map (Value.int .u8) ++ row.toList.drop (tn + kk)).toArray) := fun w1 hk1 => by
    rw [hex, hx, hy]
    exact hap w1 τ γ ((hk1.heap _ hMτ).trans hτ) fun j u hu => (cell_keeps hk1 (a := ⟨γ, oo + j, none⟩) hMγ).trans (hys j u hu)
  have hflat : ∀ v ∈ (row.toList.take tn ++ ys.map (Value.int .u8) ++ row.toList.drop (tn + kk)).toArray, flatC v = true := fun v hv => by
    simp only [List.mem_toArray, List.mem_append, List.mem_map] at hv
    rcases hv with (h | ⟨z, _, rfl⟩) | h
    · exact hf v (Array.mem_toList_iff.1 (List.mem_of_mem_take h))
    · rfl
    · exact hf v (Array.mem_toList_iff.1 (List.mem_of_mem_drop h))
  refine Co.doesG ho hw hk hSw hM (fun w1 hk1 => ?_) fun w1 hk1 v w2 h2 => ?_
  · refine ⟨renA τ γ oo bog, #[.cells row e (0, 0), .cells (partRow oo ys) bog (0, (partRow oo ys).size)], fun b => b = 1, _, _, _,
      fun L => ⟨fun b b' hb => ?_, fun b b' c' h1 h2 => ?_, fun b c b' h1 h2 => ?_, fun b hb => ?_, fun _ _ _ => rfl, fun b b' hb _ => ?_⟩, fun b hb => ?_, Nat.zero_le _, ?_, hap _ 0 1 rfl fun j u hu => ?_, fun b b' hb => ?_, fun b b' hb hs => ?_⟩
    · rcases hb with ⟨rfl, rfl⟩ | ⟨rfl, rfl⟩
      · exact ⟨_, _, rfl, (hk1.heap _ hMτ).trans hτ, relO_flatF hf⟩
      · obtain ⟨o', h1, h2⟩ := relO_part (ρ := renA τ b' oo bog) (γ := b') (oo := oo) (ys := ys) (w := w1) (by omega) fun j u hu => (cell_keeps hk1 (a := ⟨_, oo + j, none⟩) hMγ).trans (hys j u hu)
        exact ⟨_, _, rfl, h1, h2⟩
    · rcases h1 with ⟨rfl, rfl⟩ | ⟨rfl, rfl⟩ <;> rcases h2 with ⟨h, rfl⟩ | ⟨h, rfl⟩ <;> first | rfl | cases h
    · rcases h1 with ⟨rfl, rfl⟩ | ⟨rfl, rfl⟩ <;> rcases h2 with ⟨rfl, h⟩ | ⟨rfl, h⟩ <;> first | exact .inl rfl | exact absurd h hne | exact absurd h.symm hne
    · have : b ≠ 1 := by intro h; subst h; simp at hb
      exact if_neg this
    · subst hb
      exact ⟨_, _, _, rfl, Nat.le_refl _⟩
    · subst hb
      simp
    · rw [hex, hx, hy]
      exact sim_value (sim_append hE (fun k h => by rw [ht] at h; cases h) (.slice _ _ ⟨.inl ⟨rfl, rfl⟩, rfl, rfl, fun h => absurd h (Nat.not_lt_zero _), Nat.zero_le _⟩) (.slice _ _ ⟨.inr ⟨rfl, rfl⟩, rfl, rfl, fun h => absurd h (Nat.not_lt_zero _), Nat.le_refl _⟩))
    · have := partRow_at oo ys j
      rw [hu] at this
      simpa [World.cell?] using this
    · rcases hb with ⟨_, rfl⟩ | ⟨_, rfl⟩
      · exact hMτ
      · exact hMγ
    · rcases hb with ⟨_, rfl⟩ | ⟨h, rfl⟩
      · exact absurd hs hSτ
      · exact h
  · rw [hr w1 hk1] at h2
    cases h2
    rw [grown_self (by simp [World.setRow])]
    refine next w1 _ hk1 ?_ hflat ?_
    · simp; omega
    · rw [List.toList_toArray, List.take_append_of_le_length (by simp [hyl]; omega)]
      exact List.take_of_length_le (by simp [hyl]; omega)
end
section
variable {Sh : Nat → Prop} {Stop : (Nat → Prop) → Goroutine → World → Prop} {M : Nat → Prop} {w : World}
noncomputable def xorR (kv nv : Value) (ct : Int) (ad : Addr) (bn bc : Nat) (a1 a2 : Int) (m : Nat) (a4 : Int) (X : Array Value) (β : Nat) (ch τ tn : Nat) (v u62 u63 : Value) (rest : List Nat) : Frame := bR.at ⟨#[kv, .int .i64 ct, nv, .slice (some ad) bn bc, undef, undef, undef, undef, .slice none 0 0, .int .i64 m, .pointer (some ⟨β, 0, none⟩), .bool true, .chan (some ch), .slice (some ⟨τ, 0, none⟩) tn bn, v, .slice (some ad) bn bc, .int .i64 bn, .int .i64 a1, .int .i64 a2, .int .i64 m, .tuple #[.agg X, .bool true], kv, nv, .tuple #[.agg X, .bool true], .agg X, .bool true, .bool true, .bool false, .bool false, .slice (some ad) bn bc, .int .i64 bn, .bool false, .bool false, .bool false, .int .i64 ct, .bool false, .bool false, .bool false, .int .i64 m, .int .i64 ct, .int .i64 a4, .bool false, .bool false, .int .i64 m, .chan (some ch), .agg X, .chan (some ch), .int .i64 ct, .int .i64 m, .slice (some ad) bn bc, .int .i64 bn, .slice (some ⟨τ, 0, none⟩) 0 bn, .chan (some ch), .tuple #[v, .bool true], .bool true, v, .slice (some ⟨τ, 0, none⟩) tn bn, .slice (some ad) bn bc, .slice (some ⟨τ, 0, none⟩) tn bn, .int .i64 tn, .slice (some (ad.add tn)) (bn - tn) (bc - tn), v, u62, u63, undef], []⟩ [.inRegion ops11R rest, .inBlock 1, .inLoop LR, .inBlock 0, .code endR]
theorem recv_R (kv nv : Value) (ct : Int) (bp : Option Addr) (bn bc : Nat) (a1 a2 : Int) (m : Nat) (a4 : Int) (X : Array Value) (β : Nat) (ch τ tn : Nat) (u14 u53 u54 u55 u56 u57 u58 u59 u60 u61 u62 u63 : Value) (cs : List Frame) (w : World) : stepG Tryz.prog true (G (recvR kv nv ct bp bn bc a1 a2 m a4 X β ch τ tn u14 u53 u54 u55 u56 u57 u58 u59 u60 u61 u62 u63 [0, 1]) cs) w = .comm (G (recvR kv nv ct bp bn bc a1 a2 m a4 X β ch τ tn u14 u53 u54 u55 u56 u57 u58 u59 u60 u61 u62 u63 [0, 1]) cs) #[rcase ch (.slice none 0 0)] true (.recv true) w #[] := by
  simp only [recvR, ops9R, rest9R, LR, endR, rest6R, tailR, bodyR, Tryz.f72, Option.getD_some]
  rw [stepG_comm (cases := #[rcase ch (.slice none 0 0)]) (blocking := true) (shape := .recv true) (w' := w) rfl rfl (by decide) (by simp [execOp, rcase, Act.eval])]
  simp [listed, execOp, seen]
theorem recvd_R (kv nv : Value) (ct : Int) (bp : Option Addr) (bn bc : Nat) (a1 a2 : Int) (m : Nat) (a4 : Int) (X : Array Value) (β : Nat) (ch τ tn : Nat) (u14 u53 u54 u55 u56 u57 u58 u59 u60 u61 u62 u63 v : Value) (ok : Bool) (cs : List Frame) : (G (recvR kv nv ct bp bn bc a1 a2 m a4 X β ch τ tn u14 u53 u54 u55 u56 u57 u58 u59 u60 u61 u62 u63 [0, 1]) cs).finishComm Tryz.prog #[rcase ch (.slice none 0 0)] (.recv true) 0 v ok = G (recvR kv nv ct bp bn bc a1 a2 m a4 X β ch τ tn u14 (.tuple #[v, .bool ok]) u54 u55 u56 u57 u58 u59 u60 u61 u62 u63 [1]) cs := by
  simp only [recvR, ops9R, rest9R, LR, endR, rest6R, tailR, bodyR, Tryz.f72, Option.getD_some]
  rfl
theorem got_R (kv nv : Value) (ct : Int) (ad : Addr) (bn bc : Nat) (a1 a2 : Int) (m : Nat) (a4 : Int) (X : Array Value) (β : Nat) (ch τ tn : Nat) (u14 u54 u55 u56 u57 u58 u59 u60 u61 u62 u63 v : Value) (cs : List Frame) (hl : tn < bn) (hb : bn ≤ bc)
    (next : Co Tryz.prog true Sh Stop M (G (Frame.enter Tryz.prog 109 #[.slice (some (ad.add tn)) (bn - tn) (bc - tn), v] .normal) (xorR kv nv ct ad bn bc a1 a2 m a4 X β ch τ tn v u62 u63 [6, 7, 8] :: cs)) w) :
    Co Tryz.prog true Sh Stop M (G (recvR kv nv ct (some ad) bn bc a1 a2 m a4 X β ch τ tn u14 (.tuple #[v, .bool true]) u54 u55 u56 u57 u58 u59 u60 u61 u62 u63 [1]) cs) w := by
  obtain ⟨i0, hi, hz0, hz1, hz2⟩ := info_parts infoByte
  simp only [recvR, xorR, ops11R, ops9R, rest9R, LR, endR, rest6R, tailR, bodyR, Tryz.f72, Option.getD_some] at next ⊢
  refine Co.value (v := .bool true) rfl rfl (by decide) (fun _ => by simp [go_sem, execOp, Act.eval]) (fun _ => by simp [go_sem, execOp, Act.eval]) ?_
  walk_nrm
  iterate 2 (with_reducible refine Co.ctlG (fun _ => by first | exact stepG_seq | exact stepG_skip | exact stepG_block | exact stepG_loop | exact stepG_inLoop | exact stepG_inBlock | exact stepG_region_end | exact stepG_region) ?_)
  refine Co.ctlG (fun _ => stepG_cond (t := true) rfl) ?_
  simp only [if_true]
  iterate 4 (with_reducible refine Co.ctlG (fun _ => by first | exact stepG_seq | exact stepG_skip | exact stepG_block | exact stepG_loop | exact stepG_inLoop | exact stepG_inBlock | exact stepG_region_end | exact stepG_region) ?_)
  refine Co.value (v := v) rfl rfl (by decide) (fun _ => by simp [go_sem, execOp, Act.eval]) (fun _ => by simp [go_sem, execOp, Act.eval]) ?_
  walk_nrm
  (refine Co.value rfl rfl (by decide) (fun _ => by simp [execOp, Act.eval]; rfl) (fun _ => by simp [execOp, Act.eval]) ?_; walk_nrm)
  iterate 2 (with_reducible refine Co.ctlG (fun _ => by first | exact stepG_seq | exact stepG_skip | exact stepG_block | exact stepG_loop | exact stepG_inLoop | exact stepG_inBlock | exact stepG_region_end | exact stepG_region) ?_)
  iterate 3 (refine Co.value rfl rfl (by decide) (fun _ => by simp [execOp, Act.eval]; rfl) (fun _ => by simp [execOp, Act.eval]) ?_; walk_nrm)
  refine Co.value (v := .int .i64 tn) rfl rfl (by decide) (fun _ => by simp [go_sem, execOp, Act.eval, Tryz.underlying22]) (fun _ => by simp [go_sem, execOp, Act.eval]) ?_
  walk_nrm
  refine Co.sliceFrom (l := tn) (n := bn) (c := bc) (ad := ad) rfl rfl (by decide) rfl rfl rfl Tryz.underlying22 hi hz1 hl hb ?_
  walk_nrm
  (refine Co.value rfl rfl (by decide) (fun _ => by simp [execOp, Act.eval]; rfl) (fun _ => by simp [execOp, Act.eval]) ?_; walk_nrm)
  refine Co.call rfl rfl (by decide) rfl Tryz.func109 (by kernel_rfl) (by kernel_rfl) ?_
  walk_nrm
  exact next
theorem xored_R (kv nv : Value) (ct : Int) (ad : Addr) (bn bc : Nat) (a1 a2 : Int) (m : Nat) (a4 : Int) (X : Array Value) (β : Nat) (ch τ tn : Nat) (v u62 u63 r : Value) : (xorR kv nv ct ad bn bc a1 a2 m a4 X β ch τ tn v u62 u63 [6, 7, 8]).finish r = xorR kv nv ct ad bn bc a1 a2 m a4 X β ch τ tn v r u63 [7, 8] := by
  simp only [xorR, ops11R, rest9R, LR, endR, rest6R, tailR, bodyR, Tryz.f72, Option.getD_some]
  rfl
end
section
variable {Sh : Nat → Prop} {Stop : (Nat → Prop) → Goroutine → World → Prop} {M : Nat → Prop} {w : World}
theorem put_R (kv nv : Value) (ct : Int) (ad : Addr) (bn bc : Nat) (a1 a2 : Int) (m : Nat) (a4 : Int) (X : Array Value) (β : Nat) (ch τ tn γ oo kk c : Nat) (v u63 : Value) (cs : List Frame) (row : Array Value) (ys : List Int)
    (hτ : w.heap[τ]? = some (.cells row 5 (0, 0))) (hrow : row.size = bn) (hf : ∀ v ∈ row, flatC v = true) (hyl : ys.length = kk) (hpos : 0 < kk) (hys : ∀ j u, ys[j]? = some u → w.cell? ⟨γ, oo + j, none⟩ = some (.int .u8 u)) (hne : τ ≠ γ) (hMτ : M τ) (hMγ : M γ) (hSτ : ¬ Sh τ) (hroom : tn + kk ≤ bn) (hSw : ∀ b, Sh b → b < w.heap.size) (hM : ∀ b, M b → b < w.heap.size)
    (next : ∀ w1 row', Keeps M w w1 → row'.size = bn → (∀ v ∈ row', flatC v = true) → row'.toList.take (tn + kk) = row.toList.take tn ++ ys.map (Value.int .u8) → ∀ u14 u53 u54 u55 u56 u57 u58 u59 u60 u61 u62 u63, Co Tryz.prog true Sh Stop M (G (recvR kv nv ct (some ad) bn bc a1 a2 m a4 X β ch τ (tn + kk) u14 u53 u54 u55 u56 u57 u58 u59 u60 u61 u62 u63 [0, 1]) cs) (w1.setRow τ row')) :
    Co Tryz.prog true Sh Stop M (G (xorR kv nv ct ad bn bc a1 a2 m a4 X β ch τ tn v (.slice (some ⟨γ, oo, none⟩) kk c) u63 [7, 8]) cs) w := by
  obtain ⟨i0, hi, hz0, hz1, hz2⟩ := info_parts infoByte
  simp only [recvR, xorR, ops9R, ops11R, rest9R, LR, endR, rest6R, tailR, bodyR, Tryz.f72, Option.getD_some] at next ⊢
  refine Co.appendBytes (bog := 271) (τ := τ) (tn := tn) (bn := bn) (γ := γ) (oo := oo) (kk := kk) (c := c) (ys := ys) rfl rfl (by decide) rfl rfl rfl Tryz.underlying22 (by kernel_rfl) hi hz1 hτ hrow hf hyl hpos hys hne hMτ hMγ hSτ hroom hSw hM fun w1 row' hk1 hrow' hflat' htake => ?_
  walk_nrm
  (refine Co.value rfl rfl (by decide) (fun _ => by simp [execOp, Act.eval]; rfl) (fun _ => by simp [execOp, Act.eval]) ?_; walk_nrm)
  iterate 5 (with_reducible refine Co.ctlG (fun _ => by first | exact stepG_seq | exact stepG_skip | exact stepG_block | exact stepG_loop | exact stepG_inLoop | exact stepG_inBlock | exact stepG_region_end | exact stepG_region) ?_)
  exact next w1 row' hk1 hrow' hflat' htake ..
theorem shut_R (kv nv : Value) (ct : Int) (bp : Option Addr) (bn bc : Nat) (a1 a2 : Int) (m : Nat) (a4 : Int) (X : Array Value) (β : Nat) (ch τ tn : Nat) (u14 u54 u55 u56 u57 u58 u59 u60 u61 u62 u63 : Value) (cs : List Frame)
    (next : ∀ tmps todo, tmps.getD 8 undef = .slice (some ⟨τ, 0, none⟩) tn bn → Co Tryz.prog true Sh Stop M (G { bR.at ⟨tmps, []⟩ todo with mode := .returning } cs) w) :
    Co Tryz.prog true Sh Stop M (G (recvR kv nv ct bp bn bc a1 a2 m a4 X β ch τ tn u14 (.tuple #[.slice none 0 0, .bool false]) u54 u55 u56 u57 u58 u59 u60 u61 u62 u63 [1]) cs) w := by
  simp only [recvR, ops9R, rest9R, LR, endR, rest6R, tailR, bodyR, Tryz.f72, Option.getD_some]
  refine Co.value (v := .bool false) rfl rfl (by decide) (fun _ => by simp [go_sem, execOp, Act.eval]) (fun _ => by simp [go_sem, execOp, Act.eval]) ?_
  walk_nrm
  iterate 2 (with_reducible refine Co.ctlG (fun _ => by first | exact stepG_seq | exact stepG_skip | exact stepG_block | exact stepG_loop | exact stepG_inLoop | exact stepG_inBlock | exact stepG_region_end | exact stepG_region) ?_)
  refine Co.ctlG (fun _ => stepG_cond (t := false) rfl) ?_
  simp only [Bool.false_eq_true, if_false]
  refine Co.ctlG (fun _ => stepG_exit rfl) ?_
  iterate 2 (with_reducible refine Co.ctlG (fun _ => by first | exact stepG_seq | exact stepG_skip | exact stepG_block | exact stepG_loop | exact stepG_inLoop | exact stepG_inBlock | exact stepG_region_end | exact stepG_region) ?_)
  iterate 2 (refine Co.value rfl rfl (by decide) (fun _ => by simp [execOp, Act.eval]; rfl) (fun _ => by simp [execOp, Act.eval]) ?_; walk_nrm)
  (with_reducible refine Co.ctlG (fun _ => by first | exact stepG_seq | exact stepG_skip | exact stepG_block | exact stepG_loop | exact stepG_inLoop | exact stepG_inBlock | exact stepG_region_end | exact stepG_region) ?_)
  refine Co.ctlG (fun _ => stepG_ret') ?_
  exact next _ _ rfl
end
end Go.Proofs.YtnpffnhiefgglaaGreatDoor
namespace Go.Proofs.YtnpffnhiefgglaaGreatDoor
open Go.RowKit
set_option maxRecDepth 100000
def xorL (xs ys : List Int) : List Int := List.zipWith (fun u v => bits BinOp.xor IntKind.u8 u v) xs ys
theorem xorL_length (xs ys : List Int) : (xorL xs ys).length = min xs.length ys.length := by simp [xorL]
theorem xorL_step {xs ys : List Int} {n m k : Nat} {u v : Int} (hx : xs.length = n) (hy : ys.length = m) (hk : k < n) (hk' : k < m) (hu : u = xs.getD k 0) (hv : v = ys.getD k 0) :
    xorL (xs.take k) (ys.take k) ++ [bits BinOp.xor IntKind.u8 u v] = xorL (xs.take (k + 1)) (ys.take (k + 1)) := by
  subst hu hv
  unfold xorL
  rw [List.take_succ_eq_append_getElem (by omega), List.take_succ_eq_append_getElem (by omega), List.zipWith_append (by simp; omega)]
  simp [List.getElem?_eq_getElem (show k < xs.length by omega), List.getElem?_eq_getElem (show k < ys.length by omega)]
theorem xorL_all {xs ys : List Int} {n m k : Nat} (hx : xs.length = n) (hy : ys.length = m) (h : k = min n m) : xorL (xs.take k) (ys.take k) = xorL xs ys := by
  subst hx hy h
  unfold xorL
  apply List.ext_getElem
  · simp
  · intro i h1 h2; simp
set_option maxHeartbeats 1000000 in
theorem specXor_any (p q : Option Addr) (n m c d : Nat) (xs ys : List Int) (w : World) (hn : n ≤ 1048576) (hm : m ≤ 1048576) (hx : xs.length = n) (hy : ys.length = m) (h : BytesIn w p n xs) (h' : BytesIn w q m ys) :
    Calls Tryz.prog 116 #[.slice p n c, .slice q m d] w fun e w' => ∃ v, e = .returned v ∧ w'.ownsRow w.heap.size 5 1 v (min n m) ((xorL xs ys).map (Value.int .u8)) ∧ Below w.heap.size w w' := by
  obtain ⟨i0, hi, hz0, hz1, hz2⟩ := info_parts infoByte
  go_enter Tryz.func116, Tryz.ntmps116
  go_wp2
  go_loopw [5, 6] (fun v i wr => ∃ k : Nat, k ≤ n ∧ k ≤ m ∧ i = .int .i64 k ∧ wr.ownsRow w.heap.size 5 1 v k ((xorL (xs.take k) (ys.take k)).map (Value.int .u8)) ∧ Below w.heap.size w wr)
    (fun _ i _ => n - (intOf i).toNat)
  case atStart => exact ⟨0, Nat.zero_le _, Nat.zero_le _, rfl, World.ownsRow_made w #[] 0 (Nat.le_refl _) (by unfold maxLen; omega) rfl, (Below.refl _ _).alloc (Nat.le_refl _) _⟩
  case round =>
    obtain ⟨k, hk, hk', rfl, hown, hbel⟩ := hrel
    have hsz := hbel.size
    by_cases hlt : k < n
    · by_cases hlt' : k < m
      · obtain ⟨b, o, rfl, hc⟩ := h (by omega)
        obtain ⟨b', o', rfl, hc'⟩ := h' (by omega)
        have hcx : wr.cell? ⟨b, o + k, none⟩ = some (.int .u8 (xs.getD k 0)) := by
          rw [hbel.cell (p := ⟨b, o + k, none⟩) (World.block_lt_of_cell? w ⟨b, o + k, none⟩ (hc k hlt))]
          exact hc k hlt
        have hcy : wr.cell? ⟨b', o' + k, none⟩ = some (.int .u8 (ys.getD k 0)) := by
          rw [hbel.cell (p := ⟨b', o' + k, none⟩) (World.block_lt_of_cell? w ⟨b', o' + k, none⟩ (hc' k hlt'))]
          exact hc' k hlt'
        obtain ⟨u, hu⟩ : ∃ u, u = xs.getD k 0 := ⟨_, rfl⟩
        obtain ⟨v, hv⟩ : ∃ v, v = ys.getD k 0 := ⟨_, rfl⟩
        rw [← hu] at hcx
        rw [← hv] at hcy
        have hnext := xorL_step hx hy hlt hlt' hu hv
        have HN : Hid (xorL (xs.take k) (ys.take k) ++ [bits BinOp.xor IntKind.u8 u v] = xorL (xs.take (k + 1)) (ys.take (k + 1))) := hnext
        clear hc hc' h h' hu hv hnext
        go_wp2
        go_region_law (refine step_push hi hz0 hz1 hz2 (.tmp 20) (.tmp 30) 22 Tryz.underlying22 _ hown (by omega) hsz (by rfl) (by rfl) (by rfl) (by rfl) ?_; intro g cap w1 ho1 hb1; rw [HN.out] at ho1)
        all_goals
          go_wp2
          go_roundw
          case rel => exact ⟨k + 1, by omega, by omega, by go_num, ho1, hbel.trans hb1⟩
          case measure => simp [intOf]; omega
      · rw [xorL_all hx hy (by omega), show k = min n m by omega] at hown
        go_wp2
        go_ret
        exact ⟨_, rfl, hown, hbel⟩
    · rw [xorL_all hx hy (by omega), show k = min n m by omega] at hown
      go_wp2
      go_ret
      exact ⟨_, rfl, hown, hbel⟩
theorem xorL_getD {xs ys : List Int} {n m k : Nat} {u v : Int} (hx : xs.length = n) (hy : ys.length = m) (hk : k < n) (hk' : k < m) (hu : u = xs.getD k 0) (hv : v = ys.getD k 0) :
    bits BinOp.xor IntKind.u8 u v = (xorL xs ys).getD k 0 := by
  subst hu hv hx hy
  simp [xorL, List.getElem?_eq_getElem hk, List.getElem?_eq_getElem hk', List.getElem?_zipWith]
set_option maxHeartbeats 1000000 in
theorem implXor_le (p q : Option Addr) (n m c d : Nat) (xs ys : List Int) (w : World) (hn : n ≤ 1048576) (hm : m ≤ 1048576) (hx : xs.length = n) (hy : ys.length = m) (h : BytesIn w p n xs) (h' : BytesIn w q m ys) (hmin : n ≤ m) :
    Calls Tryz.prog 109 #[.slice p n c, .slice q m d] w fun e w' => ∃ v, e = .returned v ∧ w'.ownsRow w.heap.size 5 1 v n ((xorL xs ys).map (Value.int .u8)) ∧ Below w.heap.size w w' := by
  obtain ⟨i0, hi, hz0, hz1, hz2⟩ := info_parts infoByte
  have hl : (xorL xs ys).length = n := by rw [xorL_length, hx, hy]; omega
  go_enter Tryz.func109, Tryz.ntmps109
  go_wp2_with (at_make; refine wpList_make_full _ rfl _ _ 22 rfl w.heap.size 5 i0 (.int .u8 0) 1 Tryz.underlying22 hi hz0 hz1 _ _ _ _ n rfl rfl rfl rfl ?b2 ?b3 ?b4 ?_)
  case b2 => rw [hz2]; omega
  case b3 => unfold maxLen; omega
  case b4 => exact Nat.le_refl _
  intro w1 hown hgrow
  rw [fill_start (xorL xs ys) n] at hown
  have hbel : Below w.heap.size w w1 := (Below.refl _ _).grown hgrow (Nat.le_refl _) (fun _ h => by cases h)
  clear hgrow
  go_wp2
  go_loopw [15] (fun i wr => ∃ k : Nat, k ≤ n ∧ i = .int .i64 k ∧ wr.ownsRow w.heap.size 5 1 (.slice (some ⟨w.heap.size, 0, none⟩) n n) n (((xorL xs ys).take k ++ List.replicate (n - k) 0).map (Value.int .u8)) ∧ Below w.heap.size w wr)
    (fun i _ => n - (intOf i).toNat)
  case atStart => exact ⟨0, Nat.zero_le _, rfl, hown, hbel⟩
  case round =>
    clear hown hbel
    obtain ⟨k, hk, rfl, hown, hbel⟩ := hrel
    by_cases hlt : k < n
    · have hlx : k < n := by omega
      have hly : k < m := by omega
      obtain ⟨b, o, rfl, hc⟩ := h (by omega)
      obtain ⟨b', o', rfl, hc'⟩ := h' (by omega)
      have hcx : wr.cell? ⟨b, o + k, none⟩ = some (.int .u8 (xs.getD k 0)) := by
        rw [hbel.cell (p := ⟨b, o + k, none⟩) (World.block_lt_of_cell? w ⟨b, o + k, none⟩ (hc k hlx))]
        exact hc k hlx
      have hcy : wr.cell? ⟨b', o' + k, none⟩ = some (.int .u8 (ys.getD k 0)) := by
        rw [hbel.cell (p := ⟨b', o' + k, none⟩) (World.block_lt_of_cell? w ⟨b', o' + k, none⟩ (hc' k hly))]
        exact hc' k hly
      obtain ⟨u, hu⟩ : ∃ u, u = xs.getD k 0 := ⟨_, rfl⟩
      obtain ⟨v, hv⟩ : ∃ v, v = ys.getD k 0 := ⟨_, rfl⟩
      rw [← hu] at hcx
      rw [← hv] at hcy
      have hold : wr.cell? ⟨w.heap.size, k, none⟩ = some (.int .u8 0) := by
        rw [hown.cellAt k (by omega)]; exact fill_old _ n k hlt hl
      have hfz := hown.frozenAt k
      have hst := hown.stored k (.int .u8 (bits BinOp.xor IntKind.u8 u v))
      rw [fill_step (xorL xs ys) n k _ (xorL_getD hx hy hlx hly hu hv) hlt hl] at hst
      have hbel' := hbel.setCell (p := ⟨w.heap.size, k, none⟩) (Nat.le_refl _) (.int .u8 (bits BinOp.xor IntKind.u8 u v))
      clear hc hc' h h' hu hv
      go_wp2
      go_region
      all_goals
        go_wp2
        go_roundw
        case rel => exact ⟨k + 1, by omega, by go_num, hst.1, hbel'.drew⟩
        case measure => simp [intOf]; omega
    · have hkn : k = n := by omega
      subst hkn
      go_wp2
      go_ret
      rw [fill_end _ _ hl] at hown
      exact ⟨_, rfl, hown, hbel⟩
set_option maxHeartbeats 1000000 in
theorem implXor_gt (p q : Option Addr) (n m c d : Nat) (xs ys : List Int) (w : World) (hn : n ≤ 1048576) (hm : m ≤ 1048576) (hx : xs.length = n) (hy : ys.length = m) (h : BytesIn w p n xs) (h' : BytesIn w q m ys) (hmin : m < n) :
    Calls Tryz.prog 109 #[.slice p n c, .slice q m d] w fun e w' => ∃ v, e = .returned v ∧ w'.ownsRow w.heap.size 5 1 v m ((xorL xs ys).map (Value.int .u8)) ∧ Below w.heap.size w w' := by
  obtain ⟨i0, hi, hz0, hz1, hz2⟩ := info_parts infoByte
  have hl : (xorL xs ys).length = m := by rw [xorL_length, hx, hy]; omega
  go_enter Tryz.func109, Tryz.ntmps109
  go_wp2_with (at_make; refine wpList_make_full _ rfl _ _ 22 rfl w.heap.size 5 i0 (.int .u8 0) 1 Tryz.underlying22 hi hz0 hz1 _ _ _ _ m rfl rfl rfl rfl ?b2 ?b3 ?b4 ?_)
  case b2 => rw [hz2]; omega
  case b3 => unfold maxLen; omega
  case b4 => exact Nat.le_refl _
  intro w1 hown hgrow
  rw [fill_start (xorL xs ys) m] at hown
  have hbel : Below w.heap.size w w1 := (Below.refl _ _).grown hgrow (Nat.le_refl _) (fun _ h => by cases h)
  clear hgrow
  go_wp2
  go_loopw [15] (fun i wr => ∃ k : Nat, k ≤ m ∧ i = .int .i64 k ∧ wr.ownsRow w.heap.size 5 1 (.slice (some ⟨w.heap.size, 0, none⟩) m m) m (((xorL xs ys).take k ++ List.replicate (m - k) 0).map (Value.int .u8)) ∧ Below w.heap.size w wr)
    (fun i _ => m - (intOf i).toNat)
  case atStart => exact ⟨0, Nat.zero_le _, rfl, hown, hbel⟩
  case round =>
    clear hown hbel
    obtain ⟨k, hk, rfl, hown, hbel⟩ := hrel
    by_cases hlt : k < m
    · have hlx : k < n := by omega
      have hly : k < m := by omega
      obtain ⟨b, o, rfl, hc⟩ := h (by omega)
      obtain ⟨b', o', rfl, hc'⟩ := h' (by omega)
      have hcx : wr.cell? ⟨b, o + k, none⟩ = some (.int .u8 (xs.getD k 0)) := by
        rw [hbel.cell (p := ⟨b, o + k, none⟩) (World.block_lt_of_cell? w ⟨b, o + k, none⟩ (hc k hlx))]
        exact hc k hlx
      have hcy : wr.cell? ⟨b', o' + k, none⟩ = some (.int .u8 (ys.getD k 0)) := by
        rw [hbel.cell (p := ⟨b', o' + k, none⟩) (World.block_lt_of_cell? w ⟨b', o' + k, none⟩ (hc' k hly))]
        exact hc' k hly
      obtain ⟨u, hu⟩ : ∃ u, u = xs.getD k 0 := ⟨_, rfl⟩
      obtain ⟨v, hv⟩ : ∃ v, v = ys.getD k 0 := ⟨_, rfl⟩
      rw [← hu] at hcx
      rw [← hv] at hcy
      have hold : wr.cell? ⟨w.heap.size, k, none⟩ = some (.int .u8 0) := by
        rw [hown.cellAt k (by omega)]; exact fill_old _ m k hlt hl
      have hfz := hown.frozenAt k
      have hst := hown.stored k (.int .u8 (bits BinOp.xor IntKind.u8 u v))
      rw [fill_step (xorL xs ys) m k _ (xorL_getD hx hy hlx hly hu hv) hlt hl] at hst
      have hbel' := hbel.setCell (p := ⟨w.heap.size, k, none⟩) (Nat.le_refl _) (.int .u8 (bits BinOp.xor IntKind.u8 u v))
      clear hc hc' h h' hu hv
      go_wp2
      go_region
      all_goals
        go_wp2
        go_roundw
        case rel => exact ⟨k + 1, by omega, by go_num, hst.1, hbel'.drew⟩
        case measure => simp [intOf]; omega
    · have hkn : k = m := by omega
      subst hkn
      go_wp2
      go_ret
      rw [fill_end _ _ hl] at hown
      exact ⟨_, rfl, hown, hbel⟩
theorem implXor_any (p q : Option Addr) (n m c d : Nat) (xs ys : List Int) (w : World) (hn : n ≤ 1048576) (hm : m ≤ 1048576) (hx : xs.length = n) (hy : ys.length = m) (h : BytesIn w p n xs) (h' : BytesIn w q m ys) :
    Calls Tryz.prog 109 #[.slice p n c, .slice q m d] w fun e w' => ∃ v, e = .returned v ∧ w'.ownsRow w.heap.size 5 1 v (min n m) ((xorL xs ys).map (Value.int .u8)) ∧ Below w.heap.size w w' := by
  by_cases hle : n ≤ m
  · rw [show min n m = n by omega]
    exact implXor_le p q n m c d xs ys w hn hm hx hy h h' hle
  · rw [show min n m = m by omega]
    exact implXor_gt p q n m c d xs ys w hn hm hx hy h h' (by omega)
theorem specXor_own (p q : Option Addr) (n m c d : Nat) (xs ys : List Int) (w : World) (hn : n ≤ 1048576) (hm : m ≤ 1048576) (hx : xs.length = n) (hy : ys.length = m) (h : BytesIn w p n xs) (h' : BytesIn w q m ys) :
    Calls Tryz.prog 116 #[.slice p n c, .slice q m d] w fun e w' => ∃ p' c', e = .returned (.slice p' (min n m) c') ∧ Own 5 w' w.heap.size w'.heap.size (.slice p' (min n m) c') (min n m) (xorL xs ys) ∧ Below w.heap.size w w' := by
  refine (specXor_any p q n m c d xs ys w hn hm hx hy h h').mono fun e w' ⟨v, h1, h2, h3⟩ => ?_
  obtain ⟨p', c', rfl⟩ := owns_form h2
  exact ⟨p', c', h1, .of h2, h3⟩
theorem implXor_own (p q : Option Addr) (n m c d : Nat) (xs ys : List Int) (w : World) (hn : n ≤ 1048576) (hm : m ≤ 1048576) (hx : xs.length = n) (hy : ys.length = m) (h : BytesIn w p n xs) (h' : BytesIn w q m ys) :
    Calls Tryz.prog 109 #[.slice p n c, .slice q m d] w fun e w' => ∃ p' c', e = .returned (.slice p' (min n m) c') ∧ Own 5 w' w.heap.size w'.heap.size (.slice p' (min n m) c') (min n m) (xorL xs ys) ∧ Below w.heap.size w w' := by
  refine (implXor_any p q n m c d xs ys w hn hm hx hy h h').mono fun e w' ⟨v, h1, h2, h3⟩ => ?_
  obtain ⟨p', c', rfl⟩ := owns_form h2
  exact ⟨p', c', h1, .of h2, h3⟩
end Go.Proofs.YtnpffnhiefgglaaGreatDoor
namespace Go.Proofs.YtnpffnhiefgglaaGreatDoor
open Go Go.Conc
set_option maxRecDepth 100000
section
variable {P : Program} {main : Bool} {Tr Tr' : Nat → Prop} {Stop : (Nat → Prop) → Goroutine → World → Prop} {M D : Nat → Prop} {g : Goroutine} {w w0 : World}
theorem Co.tight (h : Co P main Tr' Stop M g w) (hsub : ∀ b, Tr b → Tr' b) (hD : ∀ b, D b → Tr' b ∧ M b) (hk : ∀ b, D b → w.heap[b]? = w0.heap[b]?) : Co P main Tr (fun M' g' w' => Stop M' g' w' ∧ ∀ b, D b → w'.heap[b]? = w0.heap[b]?) M g w := by
  induction h with
  | stop h => exact .stop fun w1 hk1 => ⟨h w1 hk1, fun b hb => (hk1.heap b (hD b hb).2).trans (hk b hb)⟩
  | step hr he h ih =>
    refine .step hr (fun w1 hk1 => ?_) fun w1 hk1 g' w' es hs => ?_
    · obtain ⟨g', w', es, h1, h2⟩ := he w1 hk1
      refine ⟨g', w', es, h1, h2.size, h2.rest, fun b hb => h2.still b (hsub b hb), h2.os, h2.output, h2.tape, fun e hee => ?_⟩
      rcases h2.ev e hee with ⟨a, x1, x2, x3, x4⟩ | x | x
      · exact .inl ⟨a, x1, x2, x3, fun hw hs => x4 hw (hsub _ hs)⟩
      · exact .inr (.inl x)
      · exact .inr (.inr x)
    · obtain ⟨g2, w2, es2, h1, h2⟩ := he w1 hk1
      rw [hs] at h1
      cases h1
      exact ih w1 hk1 _ _ _ hs (fun b hb => ⟨(hD b hb).1, .inl (hD b hb).2⟩) fun b hb => (h2.still b (hD b hb).1 (hD b hb).2).trans ((hk1.heap b (hD b hb).2).trans (hk b hb))
end
section
variable {P : Program} {Gl : Globs} {Al : Nat → Bool} {Sh : Nat → Prop} {main : Bool}
theorem co_call_on (T : TameP P Gl Al) {Tr : Nat → Prop} {Post : Value → World → Prop} {ρ : Ren} {f : FuncId} {args args' : Array Value} {wg w : World} {M R : Nat → Prop} {c : Frame} {cs : List Frame} {Stop : (Nat → Prop) → Goroutine → World → Prop} (hT0 : ∀ b b', ρ b b' → Tr b' → Sh b) (hTr : ∀ b', Tr b' → b' < w.heap.size) (hf : Al f = true)
    (hC : ∀ τ, Calls P f args (World.ret wg τ) fun e w1 => ∃ v, e = .returned v ∧ Post v w1) (hs : Sit 0 P Gl Al Sh ρ wg w) (hargs : RelR ρ args args') (hM : ∀ b', M b' ↔ (∃ b, ρ b b') ∨ R b') (hR : ∀ b, R b → b < w.heap.size ∧ ¬ ∃ c, ρ c b)
    (next : ∀ (ρ1 : Ren) (v v' : Value) (w1g w1 : World) (M' : Nat → Prop), RelV ρ1 v v' → Post v w1g → RelW 0 Sh ρ1 w1g w1 → ρ.le ρ1 → (∀ b b', ρ1 b b' → ρ b b' ∨ (wg.heap.size ≤ b ∧ w.heap.size ≤ b')) → (∀ b', M' b' ↔ (∃ b, ρ1 b b') ∨ R b') → Keeps R w w1 → (∀ b b', Sh b → ρ b b' → w1.heap[b']? = w.heap[b']?) → Co P main Tr Stop M' (G (c.finish v') cs) w1) :
    Co P main Tr Stop M (G (Frame.enter P f args' .normal) (c :: cs)) w := by
  have hT1 : ∀ b b', ρ b b' → (Tr b' ∨ ∃ c, Sh c ∧ ρ c b') → Sh b := fun b b' hb h => by
    rcases h with h | ⟨c, hc, hcb⟩
    · exact hT0 b b' hb h
    · rcases hs.rel.inj b c b' hb hcb with rfl | h
      · exact hc
      · exact h.1
  have h1 := co_call (main := main) (c := c) (cs := cs) T (Tr := fun b' => Tr b' ∨ ∃ c, Sh c ∧ ρ c b') hT1 (fun b' h => h.elim (hTr b') fun ⟨c, _, hc⟩ => (hs.rel.lt hc).2) hf hC hs hargs (M := fun b' => ∃ b, ρ b b') fun _ => .rfl
  have h2 := h1.frame (R := R) (w0 := w) hM (fun b hb => (hR b hb).1) (fun b hb => (hR b hb).2) (.refl _ _)
  have h3 := h2.tight (Tr := Tr) (D := fun b' => ∃ b, Sh b ∧ ρ b b') (w0 := w) (fun b hb => .inl hb) (fun b' ⟨b, hb, hr⟩ => ⟨.inr ⟨b, hb, hr⟩, (hM b').2 (.inl ⟨b, hr⟩)⟩) fun _ _ => rfl
  refine h3.bind fun M' g1 w1 ⟨⟨M1, ⟨ρ1, v, v', w1g, e1, e2, e3, e4, e5, e6, e7⟩, h5, h6⟩, h4⟩ => ?_
  subst e1
  exact next ρ1 v v' w1g w1 M' e2 e3 e4 e6 e7 (fun b' => by rw [h5 b', e5 b']) h6 fun b b' hb hr => h4 b' ⟨b, hb, hr⟩
end
/-! ### Xor -/
def alX (f : Nat) : Bool := f == 109
def glX : Globs := ⟨fun _ => false, fun _ _ => false⟩
theorem tameX : TameP Tryz.prog glX alX := by
  refine ⟨fun f hf => ?_, fun _ _ => rfl⟩
  simp only [alX, beq_iff_eq] at hf
  subst hf
  exact tame_one Tryz.func109 (by kernel_rfl) (by kernel_rfl)
theorem push2_one (n : Nat) (d a b : Obj) : (((Array.replicate n d).push a).push b)[n]? = some a := by
  rw [Array.getElem?_push, if_neg (by simp), Array.getElem?_push, if_pos (by simp)]
theorem push2_two (n : Nat) (d a b : Obj) : (((Array.replicate n d).push a).push b)[n + 1]? = some b := by
  rw [Array.getElem?_push, if_pos (by simp)]
noncomputable def ghostX (w : World) (o1 : Nat) (xs : List Int) (o2 : Nat) (ys : List Int) : World := { w with heap := ((Array.replicate Tryz.prog.globals.size (.cells #[] 271 (0, 0))).push (.cells (partRow o1 xs) 271 (0, (partRow o1 xs).size))).push (.cells (partRow o2 ys) 271 (0, (partRow o2 ys).size)) }
noncomputable def renX (b1 o1 b2 o2 : Nat) : Ren := ⟨fun b b' => (b = Tryz.prog.globals.size ∧ b' = b1) ∨ (b = Tryz.prog.globals.size + 1 ∧ b' = b2), Tryz.prog.globals.size, fun f => alX f = true, fun b => if b = Tryz.prog.globals.size then o1 + 1 else if b = Tryz.prog.globals.size + 1 then o2 + 1 else 0, fun b hb => by rw [if_neg (by omega), if_neg (by omega)], 271, fun f n => glX.d f n = true⟩
def ShX (b : Nat) : Prop := b = Tryz.prog.globals.size ∨ b = Tryz.prog.globals.size + 1
theorem ghostX_size (w : World) (o1 : Nat) (xs : List Int) (o2 : Nat) (ys : List Int) : (ghostX w o1 xs o2 ys).heap.size = Tryz.prog.globals.size + 2 := by simp [ghostX]
theorem ghostX_one (w : World) (o1 : Nat) (xs : List Int) (o2 : Nat) (ys : List Int) : (ghostX w o1 xs o2 ys).heap[Tryz.prog.globals.size]? = some (.cells (partRow o1 xs) 271 (0, (partRow o1 xs).size)) := push2_one ..
theorem ghostX_two (w : World) (o1 : Nat) (xs : List Int) (o2 : Nat) (ys : List Int) : (ghostX w o1 xs o2 ys).heap[Tryz.prog.globals.size + 1]? = some (.cells (partRow o2 ys) 271 (0, (partRow o2 ys).size)) := push2_two ..
theorem sit_X {w : World} {b1 o1 b2 o2 : Nat} {xs ys : List Int} (hx0 : 0 < xs.length) (hy0 : 0 < ys.length) (hx : ∀ j u, xs[j]? = some u → w.cell? ⟨b1, o1 + j, none⟩ = some (.int .u8 u)) (hy : ∀ j u, ys[j]? = some u → w.cell? ⟨b2, o2 + j, none⟩ = some (.int .u8 u)) :
    Sit 0 Tryz.prog glX alX ShX (renX b1 o1 b2 o2) (ghostX w o1 xs o2 ys) w := by
  refine ⟨⟨fun b b' hb => ?_, fun b b' c' h1 h2 => ?_, fun b c b' h1 h2 => .inr ⟨h1.imp And.left And.left, h2.imp And.left And.left⟩, fun b hb => ?_, fun i q h => absurd h (Nat.not_lt_zero _), fun b b' hs hb => ?_⟩, fun b hb => ?_, ⟨rfl, bogS⟩, rfl, rfl, fun g hg => (by cases hg), by rw [ghostX_size]; omega⟩
  · rcases hb with ⟨rfl, rfl⟩ | ⟨rfl, rfl⟩
    · obtain ⟨o', h1, h2⟩ := relO_part (ρ := renX b' o1 b2 o2) hx0 hx
      refine ⟨_, _, ghostX_one .., h1, ?_⟩
      have e : (renX b' o1 b2 o2).lo Tryz.prog.globals.size = o1 + 1 := by simp only [renX, if_true]
      rw [e]
      exact h2
    · obtain ⟨o', h1, h2⟩ := relO_part (ρ := renX b1 o1 b' o2) hy0 hy
      refine ⟨_, _, ghostX_two .., h1, ?_⟩
      have e : (renX b1 o1 b' o2).lo (Tryz.prog.globals.size + 1) = o2 + 1 := by
        unfold renX
        dsimp only
        rw [if_neg (by omega), if_pos rfl]
      rw [e]
      exact h2
  · rcases h1 with ⟨h, rfl⟩ | ⟨h, rfl⟩ <;> rcases h2 with ⟨k, rfl⟩ | ⟨k, rfl⟩ <;> first | rfl | omega
  · rw [ghostX_size] at hb
    exact (if_neg (by omega)).trans (if_neg (by omega))
  · rcases hs with rfl | rfl
    · exact ⟨_, _, _, ghostX_one .., Nat.le_refl _⟩
    · exact ⟨_, _, _, ghostX_two .., Nat.le_refl _⟩
  · rw [ghostX_size]
    rcases hb with rfl | rfl <;> omega
theorem renX_lo1 (b1 o1 b2 o2 : Nat) : (renX b1 o1 b2 o2).lo Tryz.prog.globals.size = o1 + 1 := by simp only [renX, if_true]
theorem renX_lo2 (b1 o1 b2 o2 : Nat) : (renX b1 o1 b2 o2).lo (Tryz.prog.globals.size + 1) = o2 + 1 := by
  unfold renX
  dsimp only
  rw [if_neg (by omega), if_pos rfl]
theorem part_cell {W : World} {g o : Nat} {xs : List Int} {e : TypeId} {fr : Nat × Nat} (h : W.heap[g]? = some (.cells (partRow o xs) e fr)) (i : Nat) (hi : i < xs.length) : W.cell? ⟨g, o + i, none⟩ = some (.int .u8 (xs.getD i 0)) := by
  have h1 := partRow_at o xs i
  rw [List.getElem?_eq_getElem hi] at h1
  simp only [World.cell?, h, Option.isSome_none, Bool.false_eq_true, if_false, h1, Option.map_some, List.getD_eq_getElem?_getD, List.getElem?_eq_getElem hi, Option.getD_some]
section
variable {Sh : Nat → Prop} {Stop : (Nat → Prop) → Goroutine → World → Prop} {M : Nat → Prop} {w : World}
theorem xor_co (b1 o1 c1 b2 o2 c2 : Nat) (xs ys : List Int) (c : Frame) (cs : List Frame) (hx0 : 0 < xs.length) (hy0 : 0 < ys.length) (hx1 : xs.length ≤ 1048576) (hy1 : ys.length ≤ 1048576) (hx : ∀ j u, xs[j]? = some u → w.cell? ⟨b1, o1 + j, none⟩ = some (.int .u8 u)) (hy : ∀ j u, ys[j]? = some u → w.cell? ⟨b2, o2 + j, none⟩ = some (.int .u8 u))
    (hM1 : M b1) (hM2 : M b2) (hM : ∀ b, M b → b < w.heap.size) (hSw : ∀ b, Sh b → b < w.heap.size)
    (next : ∀ w1 M' γ c', (∀ b, M b → M' b) → (∀ b, M' b → b < w1.heap.size) → (∀ b, M' b → M b ∨ w.heap.size ≤ b) → Keeps M w w1 → w.heap.size ≤ γ → M' γ → (∀ j u, (xorL xs ys)[j]? = some u → w1.cell? ⟨γ, 0 + j, none⟩ = some (.int .u8 u)) → Co Tryz.prog true Sh Stop M' (G (c.finish (.slice (some ⟨γ, 0, none⟩) (min xs.length ys.length) c')) cs) w1) :
    Co Tryz.prog true Sh Stop M (G (Frame.enter Tryz.prog 109 #[.slice (some ⟨b1, o1, none⟩) xs.length c1, .slice (some ⟨b2, o2, none⟩) ys.length c2] .normal) (c :: cs)) w := by
  have hlen : (xorL xs ys).length = min xs.length ys.length := xorL_length xs ys
  refine co_call_on (Gl := glX) (Al := alX) (Sh := ShX) (ρ := renX b1 o1 b2 o2) (R := fun b => M b ∧ b ≠ b1 ∧ b ≠ b2) (args := #[.slice (some ⟨Tryz.prog.globals.size, o1, none⟩) xs.length c1, .slice (some ⟨Tryz.prog.globals.size + 1, o2, none⟩) ys.length c2]) (wg := ghostX w o1 xs o2 ys)
    (Post := fun v w1 => ∃ g cap, v = .slice (some ⟨g, 0, none⟩) (min xs.length ys.length) cap ∧ Tryz.prog.globals.size + 2 ≤ g ∧ ∀ i, i < min xs.length ys.length → w1.cell? ⟨g, 0 + i, none⟩ = some (.int .u8 ((xorL xs ys).getD i 0)))
    tameX (fun b b' hb _ => hb.imp And.left And.left) hSw (by rfl) (fun τ => ?_) (sit_X hx0 hy0 hx hy) ?_ (fun b => ?_) (fun b hb => ⟨hM b hb.1, fun ⟨c, hc⟩ => ?_⟩) fun ρ1 v v' w1g w1 M' hv hP hrel hle hnew hM' hkR hst => ?_
  · have h1 : (World.ret (ghostX w o1 xs o2 ys) τ).heap[Tryz.prog.globals.size]? = _ := ghostX_one w o1 xs o2 ys
    have h2 : (World.ret (ghostX w o1 xs o2 ys) τ).heap[Tryz.prog.globals.size + 1]? = _ := ghostX_two w o1 xs o2 ys
    have hsz : (World.ret (ghostX w o1 xs o2 ys) τ).heap.size = Tryz.prog.globals.size + 2 := ghostX_size w o1 xs o2 ys
    refine (implXor_any _ _ _ _ c1 c2 xs ys (World.ret (ghostX w o1 xs o2 ys) τ) hx1 hy1 rfl rfl (fun _ => ⟨_, _, rfl, fun i hi => part_cell h1 i hi⟩) (fun _ => ⟨_, _, rfl, fun i hi => part_cell h2 i hi⟩)).mono fun e w' ⟨v, e1, e2, e3⟩ => ⟨v, e1, ?_⟩
    rcases e2.2 with ⟨_, h0⟩ | ⟨g, cap, cur, rfl, hg, _⟩
    · omega
    · refine ⟨g, cap, rfl, by omega, fun i hi => ?_⟩
      have := e2.cellAt i (by omega)
      rw [Nat.zero_add, this, List.getElem?_map, List.getElem?_eq_getElem (by omega), Option.map_some, List.getD_eq_getElem?_getD, List.getElem?_eq_getElem (by omega), Option.getD_some]
  · refine ⟨rfl, fun j x x' h1 h2 => ?_⟩
    match j with
    | 0 =>
      cases h1
      cases h2
      exact .slice _ _ ⟨.inl ⟨rfl, rfl⟩, rfl, rfl, fun h => absurd h (Nat.lt_irrefl _), by rw [renX_lo1]; exact Nat.le_refl _⟩
    | 1 =>
      cases h1
      cases h2
      exact .slice _ _ ⟨.inr ⟨rfl, rfl⟩, rfl, rfl, fun h => absurd h (Nat.not_lt.2 (Nat.le_succ _)), by rw [renX_lo2]; exact Nat.le_refl _⟩
    | j + 2 => cases h1
  · constructor
    · intro hb
      by_cases e1 : b = b1
      · exact .inl ⟨_, .inl ⟨rfl, e1⟩⟩
      · by_cases e2 : b = b2
        · exact .inl ⟨_, .inr ⟨rfl, e2⟩⟩
        · exact .inr ⟨hb, e1, e2⟩
    · rintro (⟨_, ⟨_, rfl⟩ | ⟨_, rfl⟩⟩ | hb)
      · exact hM1
      · exact hM2
      · exact hb.1
  · rcases hc with ⟨_, h⟩ | ⟨_, h⟩
    · exact hb.2.1 h
    · exact hb.2.2 h
  · obtain ⟨g, cap, rfl, hg, hcell⟩ := hP
    obtain ⟨γ, rfl, hγ, hcell'⟩ := cells_over hrel hv (fun i => (xorL xs ys).getD i 0) .u8 hcell
    have hγn : w.heap.size ≤ γ := by
      rcases hnew g γ hγ with (x | x) | x
      · omega
      · omega
      · exact x.2
    have hb1 : w1.heap[b1]? = w.heap[b1]? := hst _ _ (.inl rfl) (.inl ⟨rfl, rfl⟩)
    have hb2 : w1.heap[b2]? = w.heap[b2]? := hst _ _ (.inr rfl) (.inr ⟨rfl, rfl⟩)
    refine next w1 M' γ cap (fun b hb => (hM' b).2 ?_) (fun b hb => ?_) (fun b hb => ?_) ⟨fun b hb => ?_, hkR.size, hkR.os, hkR.output, hkR.tape⟩ hγn ((hM' γ).2 (.inl ⟨g, hγ⟩)) fun j u hu => ?_
    · by_cases e1 : b = b1
      · exact .inl ⟨_, hle.app (.inl ⟨rfl, e1⟩)⟩
      · by_cases e2 : b = b2
        · exact .inl ⟨_, hle.app (.inr ⟨rfl, e2⟩)⟩
        · exact .inr ⟨hb, e1, e2⟩
    · rcases (hM' b).1 hb with ⟨d, hd⟩ | hb
      · exact (hrel.lt hd).2
      · exact Nat.lt_of_lt_of_le (hM b hb.1) hkR.size
    · rcases (hM' b).1 hb with ⟨d, hd⟩ | hb
      · rcases hnew d b hd with (⟨_, rfl⟩ | ⟨_, rfl⟩) | x
        · exact .inl hM1
        · exact .inl hM2
        · exact .inr x.2
      · exact .inl hb.1
    · by_cases e1 : b = b1
      · exact e1 ▸ hb1
      · by_cases e2 : b = b2
        · exact e2 ▸ hb2
        · exact hkR.heap b ⟨hb, e1, e2⟩
    · have hj : j < min xs.length ys.length := by
        rw [← hlen]
        exact (List.getElem?_eq_some_iff.1 hu).1
      rw [hcell' j hj, List.getD_eq_getElem?_getD, hu, Option.getD_some]
end
def sixtyL (f : Nat → Int) : List Int := (List.range 64).map f
theorem sixtyL_length (f : Nat → Int) : (sixtyL f).length = 64 := by simp [sixtyL]
theorem sixtyL_at {f : Nat → Int} {j : Nat} {u : Int} (h : (sixtyL f)[j]? = some u) : j < 64 ∧ u = f j := by
  have hj : j < 64 := by
    have := (List.getElem?_eq_some_iff.1 h).1
    rwa [sixtyL_length] at this
  refine ⟨hj, ?_⟩
  simp only [sixtyL, List.getElem?_map, List.getElem?_range hj, Option.map_some, Option.some.injEq] at h
  exact h.symm
def outR (BS : List Int) (bs : Nat → Nat → Int) : Nat → List Int
  | 0 => []
  | i + 1 => outR BS bs i ++ xorL (BS.drop (64 * i)) (sixtyL (bs i))
theorem outR_length (BS : List Int) (bs : Nat → Nat → Int) (i : Nat) : (outR BS bs i).length = min (64 * i) BS.length := by
  induction i with
  | zero => simp [outR]
  | succ i ih =>
    rw [outR, List.length_append, ih, xorL_length, List.length_drop, sixtyL_length]
    omega
section
variable (Old : Nat → Prop) (w0 : World) (BS : List Int) (bs : Nat → Nat → Int) (τ : Nat)
structure RecvI (M : Nat → Prop) (w : World) (i : Nat) (row : Array Value) : Prop where
  text : w.heap[τ]? = some (.cells row 5 (0, 0))
  size : row.size = BS.length
  flat : ∀ v ∈ row, flatC v = true
  is : row.toList.take (min (64 * i) BS.length) = (outR BS bs i).map (Value.int .u8)
  mine : M τ
  new : ¬ Old τ
  own : ¬ ShS τ
  low : ∀ b, M b → b < w.heap.size
  sh : ∀ b, ShS b → b < w.heap.size
  old : Keeps Old w0 w
  all : ∀ b, Old b → M b
variable {Old w0 BS bs τ}
theorem RecvI.keeps {M : Nat → Prop} {w w1 : World} {i : Nat} {row : Array Value} (h : RecvI Old w0 BS bs τ M w i row) (hk : Keeps M w w1) : RecvI Old w0 BS bs τ M w1 i row :=
  ⟨(hk.heap _ h.mine).trans h.text, h.size, h.flat, h.is, h.mine, h.new, h.own, fun b hb => Nat.lt_of_lt_of_le (h.low b hb) hk.size, fun b hb => Nat.lt_of_lt_of_le (h.sh b hb) hk.size, h.old.trans ⟨fun b hb => hk.heap b (h.all b hb), hk.size, hk.os, hk.output, hk.tape⟩, h.all⟩
theorem RecvI.more {M M' : Nat → Prop} {w : World} {i : Nat} {row : Array Value} (h : RecvI Old w0 BS bs τ M w i row) (hM : ∀ b, M b → M' b) (hl : ∀ b, M' b → b < w.heap.size) : RecvI Old w0 BS bs τ M' w i row :=
  ⟨h.text, h.size, h.flat, h.is, hM _ h.mine, h.new, h.own, hl, h.sh, h.old, fun b hb => hM b (h.all b hb)⟩
end
section
variable (Old : Nat → Prop) (w0 : World) (BS : List Int) (bs : Nat → Nat → Int)
def FinR (kv nv : Value) (ct : Int) (bp : Option Addr) (bn bc : Nat) (a1 a2 : Int) (m : Nat) (a4 : Int) (X : Array Value) (β : Nat) (ch τ : Nat) (cs : List Frame) (M : Nat → Prop) (g : Goroutine) (w : World) : Prop := ∃ row, RecvI Old w0 BS bs τ M w m row ∧ ∃ u14 u54 u55 u56 u57 u58 u59 u60 u61 u62 u63 : Value, g = G (recvR kv nv ct bp bn bc a1 a2 m a4 X β ch τ (min (64 * m) bn) u14 (.tuple #[.slice none 0 0, .bool false]) u54 u55 u56 u57 u58 u59 u60 u61 u62 u63 [1]) cs
variable {Old w0 BS bs}
theorem rcv_R (kv nv : Value) (ct : Int) (bp : Option Addr) (bn bc : Nat) (a1 a2 : Int) (m : Nat) (a4 : Int) (X : Array Value) (β : Nat) (ch τ : Nat) (cs : List Frame) (b1 o1 : Nat) (hbp : 0 < bn → bp = some ⟨b1, o1, none⟩) (hOld : Old b1) (hBS : BS.length = bn) (hb1 : bn ≤ 1048576) (hbc : bn ≤ bc) (hcell : ∀ j u, BS[j]? = some u → w0.cell? ⟨b1, o1 + j, none⟩ = some (.int .u8 u)) (hm : ∀ i, i < m → 64 * i < bn) (Fin : (Nat → Prop) → Goroutine → World → Prop) (hFin : ∀ M g w, FinR Old w0 BS bs kv nv ct bp bn bc a1 a2 m a4 X β ch τ cs M g w → Fin M g w) (n : Nat) :
    ∀ (i : Nat), n + i = m → ∀ (M : Nat → Prop) (w : World) (row : Array Value), RecvI Old w0 BS bs τ M w i row → ∀ u14 u53 u54 u55 u56 u57 u58 u59 u60 u61 u62 u63, Co Tryz.prog true ShS (RStop Tryz.prog ShS ch (MsgK bs) Fin n i) M (G (recvR kv nv ct bp bn bc a1 a2 m a4 X β ch τ (min (64 * i) bn) u14 u53 u54 u55 u56 u57 u58 u59 u60 u61 u62 u63 [0, 1]) cs) w := by
  induction n with
  | zero =>
    intro i hi M w row H u14 u53 u54 u55 u56 u57 u58 u59 u60 u61 u62 u63
    obtain rfl : i = m := by omega
    refine .stop fun w1 hk => ⟨_, _, .slice none 0 0, rfl, recv_R .., fun w2 hk2 => ?_, fun _ _ _ _ _ _ => trivial⟩
    rw [recvd_R]
    exact hFin _ _ _ ⟨row, (H.keeps hk).keeps hk2, _, _, _, _, _, _, _, _, _, _, _, rfl⟩
  | succ n ih =>
    intro i hi M w row H u14 u53 u54 u55 u56 u57 u58 u59 u60 u61 u62 u63
    have hib := hm i (by omega)
    obtain rfl := hbp (by omega)
    refine .stop fun w1 hk => ⟨_, _, .slice none 0 0, rfl, recv_R .., fun w2 hk2 => trivial, fun v N w2 hk2 hN hMsg => ?_⟩
    rw [recvd_R]
    obtain ⟨b2, hNb, o2, cc, rfl, h60⟩ := hMsg
    have H2 := (H.keeps hk).keeps hk2
    have hlow2 : ∀ b, M b ∨ N b → b < w2.heap.size := fun b hb => hb.elim (H2.low b) fun h => (hN b h).1
    have H3 := H2.more (M' := fun b => M b ∨ N b) (fun b hb => .inl hb) hlow2
    have htn : min (64 * i) bn = 64 * i := by omega
    have hadd : (⟨b1, o1, none⟩ : Addr).add (min (64 * i) bn) = ⟨b1, o1 + 64 * i, none⟩ := by
      rw [htn]
      unfold Addr.add
      split
      · rename_i h0
        rw [h0]
        rfl
      · rfl
    have hdl : (BS.drop (64 * i)).length = bn - 64 * i := by rw [List.length_drop, hBS]
    refine got_R kv nv ct ⟨b1, o1, none⟩ bn bc a1 a2 m a4 X β ch τ (min (64 * i) bn) u14 u54 u55 u56 u57 u58 u59 u60 u61 u62 u63 (.slice (some ⟨b2, o2, none⟩) 64 cc) cs (by omega) hbc ?_
    rw [hadd]
    have hx := xor_co (w := w2) (Sh := ShS) (M := fun b => M b ∨ N b) (Stop := RStop Tryz.prog ShS ch (MsgK bs) Fin n (i + 1)) b1 (o1 + 64 * i) (bc - min (64 * i) bn) b2 o2 cc (BS.drop (64 * i)) (sixtyL (bs i)) (xorR kv nv ct ⟨b1, o1, none⟩ bn bc a1 a2 m a4 X β ch τ (min (64 * i) bn) (.slice (some ⟨b2, o2, none⟩) 64 cc) u62 u63 [6, 7, 8]) cs (by omega) (by rw [sixtyL_length]; omega) (by omega) (by rw [sixtyL_length]; omega) (fun j u hu => ?_) (fun j u hu => ?_) (.inl (H2.all _ hOld)) (.inr hNb) hlow2 H2.sh ?_
    · rw [hdl, sixtyL_length, show bn - 64 * i = bn - min (64 * i) bn by omega] at hx
      exact hx
    · rw [List.getElem?_drop] at hu
      have := hcell _ u hu
      rw [← cell_keeps H2.old (a := ⟨b1, o1 + (64 * i + j), none⟩) hOld] at this
      rw [← this, Nat.add_assoc]
    · obtain ⟨hj, rfl⟩ := sixtyL_at hu
      exact h60 j hj
    · intro w3 M' γ c' hM' hlow' hold' hk3 hγ hMγ hcells
      rw [xored_R]
      have H4 := H3.keeps hk3
      have H5 := H4.more hM' hlow'
      have hlen : (xorL (BS.drop (64 * i)) (sixtyL (bs i))).length = min (BS.drop (64 * i)).length (sixtyL (bs i)).length := xorL_length ..
      have hne : τ ≠ γ := fun e => by
        have := H3.low τ H3.mine
        omega
      refine put_R kv nv ct ⟨b1, o1, none⟩ bn bc a1 a2 m a4 X β ch τ (min (64 * i) bn) γ 0 _ c' _ u63 cs row (xorL (BS.drop (64 * i)) (sixtyL (bs i))) H5.text (by rw [H5.size, hBS]) H5.flat hlen (by rw [hdl, sixtyL_length]; omega) hcells hne H5.mine hMγ H5.own (by rw [hdl, sixtyL_length]; omega) H5.sh H5.low fun w4 row' hk4 hsz hflat htake => ?_
      have H6 := H5.keeps hk4
      have e1 : min (64 * i) bn + min (BS.drop (64 * i)).length (sixtyL (bs i)).length = min (64 * (i + 1)) bn := by rw [hdl, sixtyL_length]; omega
      rw [e1] at htake ⊢
      refine ih (i + 1) (by omega) M' _ row' ⟨?_, by rw [hsz, hBS], hflat, ?_, H6.mine, H6.new, H6.own, fun b hb => ?_, fun b hb => ?_, H6.old.trans ⟨fun b hb => setRow_other _ _ _ _ fun e => H6.new (e ▸ hb), by simp [World.setRow], rfl, rfl, rfl⟩, H6.all⟩
      · exact setRow_heap _ _ _ _ _ _ H6.text
      · rw [hBS, htake, outR, List.map_append, ← H6.is, hBS]
      · have := H6.low b hb
        simpa [World.setRow] using this
      · have := H6.sh b hb
        simpa [World.setRow] using this
end
structure Stays (n : Nat) (w w1 : World) : Prop where
  heap : ∀ b, b < n → w1.heap[b]? = w.heap[b]?
  size : w.heap.size ≤ w1.heap.size
  os : w1.os = w.os
  output : w1.output = w.output
  tape : w1.tape = w.tape
section
variable {Pg P : Program} [Kin Pg P] {Gl Gl0 : Globs} {Al Alg : Nat → Bool} {Sh : Nat → Prop} {d0 : Nat}
structure Still (ρ : Ren) (Sh : Nat → Prop) (w w1 : World) : Prop where
  heap : ∀ b, b < w.heap.size → (∀ c, ρ c b → Sh c) → w1.heap[b]? = w.heap[b]?
  size : w.heap.size ≤ w1.heap.size
  os : w1.os = w.os
  output : w1.output = w.output
  tape : w1.tape = w.tape
def Lives (Pg : Program) (Gl0 : Globs) (Alg : Nat → Bool) (Sh : Nat → Prop) (f : FuncId) (x : Array Value) (wg : World) : Prop := ∃ st n sE, (∀ f ∈ st, f.mode = .run ∧ f.defers = [] ∧ Alg f.fn = true) ∧ runN Pg n (mach Pg ⟨Frame.enter Pg f x .normal, st, wg⟩) = .next (mach Pg sE) ∧ Don sE ∧ Part Pg Gl0 Alg Sh sE
def DoorIs (Pg P : Program) (Gl Gl0 : Globs) (Al Alg : Nat → Bool) (Sh : Nat → Prop) (n0' : Nat) (W' : World) : Prop := ∀ (f : FuncId) (x x' : Array Value) (ρ : Ren) (wg w' : World), Gl.d f x.size = true → RelR ρ x x' → Sit 0 P Gl Al Sh ρ wg w' → Stays n0' W' w' → n0' ≤ w'.heap.size → Lives Pg Gl0 Alg Sh f x wg →
  ∃ Post : Value → World → Prop, (∀ τ, Calls Pg f x (World.ret wg τ) fun e w1 => ∃ v, e = .returned v ∧ Post v w1) ∧
    ∀ (c : Frame) (cs : List Frame), Bes P (fun g1 w1 => ∃ v', g1 = G (c.finish v') cs ∧ Still ρ Sh w' w1 ∧ ∀ v w1g, Post v w1g → ∃ ρ1 : Ren, ρ.le ρ1 ∧ RelV ρ1 v v' ∧ Sit 0 P Gl Al Sh ρ1 w1g w1 ∧ (∀ b b', ρ1 b b' → ρ b b' ∨ (wg.heap.size ≤ b ∧ w'.heap.size ≤ b')) ∧ wg.heap.size ≤ w1g.heap.size) (G (Frame.enter P f x' .normal) (c :: cs)) w'
structure Along (P : Program) (Gl : Globs) (Al : Nat → Bool) (Sh : Nat → Prop) (ρ0 : Ren) (n0 n0' : Nat) (W' : World) (s : St) (ρ : Ren) (fr' : Frame) (st' : List Frame) (w' : World) : Prop where
  sit : Sit 0 P Gl Al Sh ρ s.w w'
  fr : RelF P Gl Al ρ s.fr fr'
  st : RelFs P Gl Al ρ s.st st'
  le0 : ρ0.le ρ
  pair : ∀ b b', ρ b b' → ρ0 b b' ∨ (n0 ≤ b ∧ n0' ≤ b')
  low : n0 ≤ s.w.heap.size
  low' : n0' ≤ w'.heap.size
  stays : Stays n0' W' w'
def NextIs (Pg P : Program) (Gl : Globs) (Al : Nat → Bool) (Sh : Nat → Prop) (d0 : Nat) (ρ0 : Ren) (n0 n0' : Nat) (W' : World) (s : St) (fr' : Frame) (st' : List Frame) (g : Goroutine) (w1 : World) : Prop :=
  (∃ s1 ρ1 fr1' st1', Nx Pg d0 s1 s ∧ g = G fr1' st1' ∧ Along P Gl Al Sh ρ0 n0 n0' W' s1 ρ1 fr1' st1' w1) ∨
  ∃ f x x' ρ1 wg1, Gl.d f x.size = true ∧ Nx Pg d0 ⟨Frame.enter Pg f x .normal, s.fr :: s.st, wg1⟩ s ∧ g = G (Frame.enter P f x' .normal) (fr' :: st') ∧ RelR ρ1 x x' ∧ s.fr.mode = .run ∧ (∃ ops i rest k, s.fr.todo = .inRegion ops (i :: rest) :: k) ∧ Along P Gl Al Sh ρ0 n0 n0' W' ⟨s.fr, s.st, wg1⟩ ρ1 fr' st' w1
end
end Go.Proofs.YtnpffnhiefgglaaGreatDoor
