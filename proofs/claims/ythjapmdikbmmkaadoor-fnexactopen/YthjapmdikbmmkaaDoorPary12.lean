/-
  sendBlocks beside the receiver: whole, on what block answers alone.
  One's own operations beside others that write and make memory: whatever kind of operation is carried over.
  Stream beside others: its own steps, ahead of the go statement.
-/
import Derived.Test.YthjapmdikbmmkaaDoorPary11
import Derived.Laws.Tables
import Derived.Conc.SmallLaws
namespace Go.Proofs.YthjapmdikbmmkaaDoor
open Go Go.Conc
set_option maxRecDepth 100000

def TableIn (C : Array Value) (e : TypeId) (w : World) : Prop := ∃ lo hi, w.heap[0]? = some (.cells C e (lo, hi)) ∧ ∀ i, lo ≤ i → i < hi → i < C.size
def Sixty (bs : Nat → Int) (v : Value) (b : Nat) (w : World) : Prop := ∃ o cc, v = .slice (some ⟨b, o, none⟩) 64 cc ∧ ∀ j, j < 64 → w.cell? ⟨b, o + j, none⟩ = some (.int .u8 (bs j))
def MsgK (bs : Nat → Nat → Int) (i : Nat) (v : Value) (N : Nat → Prop) (w : World) : Prop := ∃ b, N b ∧ Sixty (bs i) v b w
theorem cell_keeps {M : Nat → Prop} {w w1 : World} (h : Keeps M w w1) {a : Addr} (ha : M a.block) : w1.cell? a = w.cell? a := by
  simp only [World.cell?, h.heap _ ha]
theorem Sixty.keeps {bs : Nat → Int} {v : Value} {b : Nat} {w w1 : World} {M : Nat → Prop} (h : Sixty bs v b w) (hb : M b) (hk : Keeps M w w1) : Sixty bs v b w1 := by
  obtain ⟨o, cc, h1, h4⟩ := h
  exact ⟨o, cc, h1, fun j hj => (cell_keeps hk hb).trans (h4 j hj)⟩
theorem msgK_keeps (bs : Nat → Nat → Int) (m : Nat) (v : Value) (N : Nat → Prop) (w w1 : World) (h : MsgK bs m v N w) (hk : Keeps N w w1) : MsgK bs m v N w1 := by
  obtain ⟨b, hb, h⟩ := h
  exact ⟨b, hb, h.keeps hb hk⟩
theorem flat_same {ρ : Ren} {v v' : Value} (h : RelV ρ v v') (hf : flatC v = true) : v' = v := by
  cases h <;> simp_all [flatC] <;> exact Array.size_eq_zero_iff.1 (by omega)
theorem row_same {ρ : Ren} {c c' : Array Value} (h : RelR ρ c c') (hf : ∀ x ∈ c, flatC x = true) : c' = c := by
  apply Array.ext_getElem?
  intro i
  rcases Nat.lt_or_ge i c.size with hi | hi
  · have hi' : i < c'.size := by rw [← h.1]; exact hi
    have h1 := Array.getElem?_eq_getElem hi
    have h2 := Array.getElem?_eq_getElem hi'
    rw [h1, h2, flat_same (h.2 i _ _ h1 h2) (hf _ (Array.getElem_mem hi))]
  · rw [Array.getElem?_eq_none hi, Array.getElem?_eq_none (by rw [← h.1]; exact hi)]
theorem Sixty.over {L : Nat} {Sh : Nat → Prop} {ρ : Ren} {wg w : World} (h : RelW L Sh ρ wg w) {bs : Nat → Int} {v v' : Value} {b : Nat} (hs : Sixty bs v b wg) (hv : RelV ρ v v') : ∃ b', ρ b b' ∧ Sixty bs v' b' w := by
  obtain ⟨o, cc, rfl, h4⟩ := hs
  obtain ⟨b', e1, hb, hc⟩ := cells_over h hv bs .u8 h4
  exact ⟨b', hb, o, cc, e1, hc⟩

section
variable (X : Array Value) (ch : Nat) (c : Int) (m β : Nat) (C : Array Value) (e : TypeId) (bs : Nat → Nat → Int)
def BlockIs : Prop := ∀ i, i < m → ∀ wg : World, Tryd.prog.globals.size ≤ wg.heap.size → wg.heap[0]? = some (.cells C e (0, C.size)) →
  Calls Tryd.prog 58 #[.agg X, .int .i64 (c + (i : Int))] wg fun ex w1 => ∃ v, ex = .returned v ∧ (∃ b, wg.heap.size ≤ b ∧ Sixty (bs i) v b w1) ∧ w1.heap[0]? = some (.cells C e (0, C.size))
structure HeadK (X : Array Value) (β : Nat) (C : Array Value) (e : TypeId) (M : Nat → Prop) (w : World) : Prop where
  box : ∃ fr, w.heap[β]? = some (.cells X 53 fr)
  mine : M β
  own : ¬ ShS β
  sh : ∀ b, ShS b → M b
  table : TableIn C e w
  low : ∀ b, M b → b < w.heap.size
theorem HeadK.keeps {M : Nat → Prop} {w w1 : World} (h : HeadK X β C e M w) (hk : Keeps M w w1) : HeadK X β C e M w1 := by
  obtain ⟨fr, hb⟩ := h.box
  obtain ⟨lo, hi, ht, hl⟩ := h.table
  exact ⟨⟨fr, (hk.heap _ h.mine).trans hb⟩, h.mine, h.own, h.sh, ⟨lo, hi, (hk.heap _ (h.sh _ ((shS_iff _).2 rfl))).trans ht, hl⟩, fun b hb => Nat.lt_of_lt_of_le (h.low b hb) hk.size⟩
variable (hX : ∀ v ∈ X, flatC v = true) (hs : X.size = 16) (hC : ∀ v ∈ C, flatC v = true) (hc : ∀ i : Nat, i < m → IntKind.i64.wrap (c + (i : Int)) = c + (i : Int)) (hm : ∀ i : Nat, i < m → IntKind.i64.wrap ((i : Int) + 1) = (i : Int) + 1) (hB : BlockIs X c m C e bs)
include hX hs hC hc hm hB
theorem snd_K (n : Nat) : ∀ (i : Nat), n + i = m → ∀ (M : Nat → Prop) (w : World), HeadK X β C e M w → ∀ u5 u6 u7 u8 u9 u12 u13 u14 u15 u16 u17 u18 u19 u20,
    Co Tryd.prog false ShS (SStop Tryd.prog ShS ch (MsgK bs) n i) M (headK X ch c m β i u5 u6 u7 u8 u9 u12 u13 u14 u15 u16 u17 u18 u19 u20) w := by
  induction n with
  | zero =>
    intro i hi M w H u5 u6 u7 u8 u9 u12 u13 u14 u15 u16 u17 u18 u19 u20
    refine done_K X ch c m β i (by omega) u5 u6 u7 u8 u9 u12 u13 u14 u15 u16 u17 u18 u19 u20 (.stop fun w1 _ => ?_)
    exact close_K X ch c m β i u5 u6 u7 u8 u9 u13 u14 u15 u16 u17 u18 u19 u20 w1
  | succ n ih =>
    intro i hi M w H u5 u6 u7 u8 u9 u12 u13 u14 u15 u16 u17 u18 u19 u20
    obtain ⟨fr, hbox⟩ := H.box
    obtain ⟨lo, hh, ht, hl⟩ := H.table
    have hgM : M 0 := H.sh _ ((shS_iff _).2 rfl)
    refine round_K X ch c m β i (by omega) (hc i (by omega)) fr hbox H.mine H.own (fun b hb => H.low b (H.sh b hb)) hX hs u5 u6 u7 u8 u9 u12 u13 u14 u15 u16 u17 u18 u19 u20 ?_
    refine co_call_in (Gl := glS) (Al := alS) (ρ := renK) (R := fun b => M b ∧ ¬ ShS b) (args := #[.agg X, .int .i64 (c + (i : Int))]) (wg := ghostK w C e)
      (Post := fun v w1 => (∃ b, Tryd.prog.globals.size ≤ b ∧ Sixty (bs i) v b w1) ∧ w1.heap[0]? = some (.cells C e (0, C.size))) tameS (fun b b' hb _ => (shS_iff b).2 hb.1) (fun b hb => H.low b (H.sh b hb)) (by rfl) (fun τ => ?_) (sit_K ht hC hl) ?_ (fun b => ?_) (fun b hb => ⟨H.low b hb.1, fun ⟨c, hc⟩ => hb.2 ((shS_iff b).2 hc.2)⟩) fun ρ1 v v' w1g w1 M' hv hP hrel hle hnew hM' hkR => ?_
    · have hsz : (World.ret (ghostK w C e) τ).heap.size = Tryd.prog.globals.size := by simp [World.ret, ghostK]
      have := hB i (by omega) (World.ret (ghostK w C e) τ) (Nat.le_of_eq hsz.symm) (by show (Array.replicate Tryd.prog.globals.size _)[_]? = _; rw [Array.getElem?_replicate, if_pos tableK])
      rw [hsz] at this
      exact this
    · refine ⟨rfl, fun j x x' h1 h2 => ?_⟩
      rw [h1] at h2
      cases h2
      have hx : x = .agg X ∨ x = .int .i64 (c + (i : Int)) := by simpa using Array.mem_of_getElem? h1
      rcases hx with rfl | rfl
      · exact .agg rfl fun j y y' g1 g2 => by rw [g1] at g2; cases g2; exact flatC_rel (hX _ (Array.mem_of_getElem? g1))
      · exact .int _ _
    · constructor
      · intro hb
        by_cases hz : ShS b
        · exact .inl ⟨_, rfl, (shS_iff b).1 hz⟩
        · exact .inr ⟨hb, hz⟩
      · rintro (⟨_, _, rfl⟩ | hb)
        · exact hgM
        · exact hb.1
    · obtain ⟨⟨b, hbn, h60⟩, htab⟩ := hP
      obtain ⟨b', hbb, h60'⟩ := h60.over hrel hv
      have hnewb : w.heap.size ≤ b' := by
        rcases hnew b b' hbb with x | x
        · have := tableK
          rw [x.1] at hbn
          omega
        · exact x.2
      have hbM : M' b' := (hM' b').2 (.inl ⟨b, hbb⟩)
      have hbS : ¬ ShS b' := fun x => by
        have h1 := H.low _ hgM
        rw [(shS_iff b').1 x] at hnewb
        omega
      have hβlt := H.low β H.mine
      have hβ' : M' β := (hM' β).2 (.inr ⟨H.mine, H.own⟩)
      have htab1 : TableIn C e w1 := by
        obtain ⟨o, o', g1, g2, g3⟩ := hrel.obj _ _ (hle.app (show renK _ _ from ⟨rfl, rfl⟩))
        rw [htab] at g1
        cases g1
        cases g3 with
        | part hl => exact absurd (by rw [hle.lo]; rfl) hl
        | @cells c c' e lo hi lo' hi' _ hr hf =>
          rw [row_same hr hC] at g2
          exact ⟨lo', hi', g2, fun i h1 h2 => (hf i h1 h2).2⟩
      have H1 : HeadK X β C e M' w1 := ⟨⟨fr, (hkR.heap β ⟨H.mine, H.own⟩).trans hbox⟩, hβ', H.own, fun b hb => (hM' b).2 (.inl ⟨_, hle.app (show renK _ _ from ⟨rfl, (shS_iff b).1 hb⟩)⟩), htab1, fun b hb => by
        rcases (hM' b).1 hb with ⟨d, hd⟩ | hb
        · exact (hrel.lt hd).2
        · exact Nat.lt_of_lt_of_le (H.low b hb.1) hkR.size⟩
      rw [finish_K]
      refine .stop fun w2 hk2 => ⟨_, _, v', .tuple #[], fun b => b = b', rfl, send_K X ch c m β i u5 u6 u7 u9 v' u20 w2, fun b hb => hb ▸ ⟨hbM, hbS⟩, ⟨b', rfl, h60'.keeps hbM hk2⟩, fun w3 hk3 => ?_⟩
      rw [sent_K]
      have H2 := H1.keeps X β C e hk2
      have H3 : HeadK X β C e (fun b => M' b ∧ ¬ b = b') w2 := ⟨H2.box, ⟨hβ', by omega⟩, H2.own, fun b hb => ⟨H2.sh b hb, fun x => hbS (x ▸ hb)⟩, H2.table, fun b hb => H2.low b hb.1⟩
      have H4 := H3.keeps X β C e hk3
      have hn1 := ih (i + 1) (by omega) _ w3 H4
      exact after_K X ch c m β i (hm i (by omega)) u5 u6 u7 u9 v' u20 fun u8 u12 u13 u14 u15 u16 u17 u18 u19 u20 => by
        have := hn1 u5 u6 u7 u8 u9 u12 u13 u14 u15 u16 u17 u18 u19 u20
        rw [show ((i + 1 : Nat) : Int) = (i : Int) + 1 by omega] at this
        exact this
end

end Go.Proofs.YthjapmdikbmmkaaDoor

namespace Go.Proofs.YthjapmdikbmmkaaDoor
open Go Go.Conc
set_option maxRecDepth 100000

section
variable {P : Program} {main : Bool} {Sh : Nat → Prop} {Stop : (Nat → Prop) → Goroutine → World → Prop} {M N : Nat → Prop} {w : World} {n : Nat} {A : Nat → Prop}
theorem Co.does {b : Frame} {a : Act} {k : List Item} {cs : List Frame} {ops : Array Oper} {i : Nat} {rest : List Nat} {o : Oper} (ho : ops[i]? = some o) (hw : Region.wanted o (yielded ops a.tmps) = true) (hk : b.kind ≠ .early)
    (hN : ∀ b, N b → M b) (hlow : ∀ b, M b → b < w.heap.size) (sim : SimS P P RelN (idr N n A) (execOp a.eval o) (execOp a.eval o)) (hm : ∀ w1, Keeps M w w1 → Mine Sh N n A w1) (hr : ∀ w1, Keeps M w w1 → ∃ v w2, (execOp a.eval o).run P w1 = .ok (.value v) w2)
    (h : ∀ w1, Keeps M w w1 → ∀ v w2, (execOp a.eval o).run P w1 = .ok (.value v) w2 → Co P main Sh Stop (grown M w1 w2) (G (b.at (a.put o.dst v) (.inRegion ops rest :: k)) cs) w2) : Co P main Sh Stop M (G (b.at a (.inRegion ops (i :: rest) :: k)) cs) w := by
  refine .step rfl (fun w1 hk1 => ?_) fun w1 hk1 g' w2 es he => ?_
  · obtain ⟨v, w2, hr1⟩ := hr w1 hk1
    have M1 := hm w1 hk1
    cases hrt : (execOp a.eval o).runT P w1 #[] with
    | mk r es0 =>
      have hr2 : r = .ok (.value v) w2 := by rw [← hr1, ← Sem.runT_fst P _ w1 #[], hrt]
      subst hr2
      obtain ⟨ρ1, v', w2', more, r1, _, r3, r4, r5⟩ := sim.runs #[] (M1.rel w2.drawn) M1.sh M1.big hrt (Nat.le_refl _)
      rw [hrt] at r1
      simp only [Prod.mk.injEq, Result.ok.injEq, Array.empty_append] at r1
      obtain ⟨⟨_, rfl⟩, rfl⟩ := r1
      have hpair : ∀ b b', ρ1 b b' → grown N w1 w2 b' := fun b b' hb => by
        rcases r4.new b b' hb with x | ⟨j, _, x⟩
        · exact .inl (x.1 ▸ x.2)
        · exact .inr ⟨by omega, (r3.lt hb).2⟩
      have hsame : ∀ b b', ρ1 b b' → b = b' := fun b b' hb => by
        rcases r4.new b b' hb with x | ⟨j, x, y⟩
        · exact x.1
        · omega
      refine ⟨_, _, _, stepG_value ho hw hk hr1, r4.size', fun b hb hn => r4.rest b hb fun c hc => hn (hN b (hc.1 ▸ hc.2)), fun b hs hmb => ?_, r4.os, r4.output, r4.tape, fun e he => ?_⟩
      · by_cases hnb : N b
        · exact r4.still b b hs ⟨rfl, hnb⟩
        · exact r4.rest b (Nat.lt_of_lt_of_le (hlow b hmb) hk1.size) fun c hc => hnb (hc.1 ▸ hc.2)
      · have he' : e ∈ es0 := by
          have := seen_sub _ _ he
          have hev : (execOp a.eval o).events P w1 #[] = es0 := by
            show ((execOp a.eval o).runT P w1 #[]).2 = es0
            rw [hrt]
          rwa [hev] at this
        have hup : ∀ b, grown N w1 w2 b → grown M w1 w2 b := fun b hb => hb.imp (hN b) id
        rcases r5 e he' with ⟨ad, c, h1, h2, h3, h4⟩ | ⟨r, c, h1, h2, h3, h4⟩ | h1
        · exact .inl ⟨ad, h1, h2, hup _ (hpair _ _ h3), hsame _ _ h3 ▸ h4⟩
        · exact .inr (.inl ⟨_, h1, h2, h3, hup _ (hpair _ _ h4)⟩)
        · exact .inr (.inr h1)
  · obtain ⟨v, w3, hr1⟩ := hr w1 hk1
    rw [stepG_value ho hw hk hr1] at he
    cases he
    exact h w1 hk1 v _ hr1
end

end Go.Proofs.YthjapmdikbmmkaaDoor

namespace Go.Proofs.YthjapmdikbmmkaaDoor
open Go Go.Conc

section
variable {P : Program} {main : Bool} {Sh : Nat → Prop} {Stop : (Nat → Prop) → Goroutine → World → Prop} {M : Nat → Prop} {w : World} {b : Frame} {a : Act} {k : List Item} {cs : List Frame} {ops : Array Oper} {i : Nat} {rest : List Nat} {o : Oper}
theorem Co.unwanted (ho : ops[i]? = some o) (hw : Region.wanted o (yielded ops a.tmps) = false)
    (h : Co P main Sh Stop M (G (b.at (a.put o.dst undef) (.inRegion ops rest :: k)) cs) w) : Co P main Sh Stop M (G (b.at a (.inRegion ops (i :: rest) :: k)) cs) w := .ctlG (fun _ => stepG_unwanted ho hw) h
theorem Co.allocV {e : TypeId} {Z : Array Value} {ti : TypeInfo} (ho : ops[i]? = some o) (hw : Region.wanted o (yielded ops a.tmps) = true) (hk : b.kind ≠ .early) (hop : o.op = .alloc e) (hi : P.info? e = some ti) (hz : ti.zero = some (.agg Z)) (hM : ∀ b, M b → b < w.heap.size)
    (next : ∀ w1, Keeps M w w1 → Co P main Sh Stop (fun b => M b ∨ b = w1.heap.size) (G (b.at (a.put o.dst (.pointer (some ⟨w1.heap.size, 0, none⟩))) (.inRegion ops rest :: k)) cs) { w1 with heap := w1.heap.push (.cells Z e) }) : Co P main Sh Stop M (G (b.at a (.inRegion ops (i :: rest) :: k)) cs) w := by
  have hr : ∀ w1, (execOp a.eval o).run P w1 = .ok (.value (.pointer (some ⟨w1.heap.size, 0, none⟩))) { w1 with heap := w1.heap.push (.cells Z e) } := fun w1 => by
    unfold execOp
    rw [hop]
    simp [Instr.alloc, zeroValue, typeInfo, hi, hz, newVar, newRow, Value.cells]
  have he : ∀ w1, (execOp a.eval o).events P w1 #[] = #[] := fun w1 => by
    unfold execOp
    rw [hop]
    simp [Instr.alloc, zeroValue, typeInfo, hi, hz, newVar, newRow]
  exact Co.alloc (g' := fun n => G (b.at (a.put o.dst (.pointer (some ⟨n, 0, none⟩))) (.inRegion ops rest :: k)) cs) rfl (fun w1 _ => ⟨#[], by rw [stepG_value ho hw hk (hr w1)]; unfold listed; rw [he w1, seen_none], by simp⟩) hM next
theorem Co.makeChan {t e : TypeId} {dir : ChanDir} {ti : TypeInfo} {x : Operand} {kd : IntKind} {n : Nat} (ho : ops[i]? = some o) (hw : Region.wanted o (yielded ops a.tmps) = true) (hk : b.kind ≠ .early) (hop : o.op = .makeChan t x) (hx : a.eval x = .int kd n) (ht : P.underlying t = some (.chan dir e)) (hi : P.info? e = some ti) (h63 : (n : Int) ≤ 9223372036854775807) (hb : (ti.bytes : Int) * n ≤ 281474976710544) (hM : ∀ b, M b → b < w.heap.size)
    (next : ∀ w1, Keeps M w w1 → Co P main Sh Stop (fun b => M b ∨ b = w1.heap.size) (G (b.at (a.put o.dst (.chan (some w1.heap.size))) (.inRegion ops rest :: k)) cs) { w1 with heap := w1.heap.push (.chan n #[] false 0 0 false) }) : Co P main Sh Stop M (G (b.at a (.inRegion ops (i :: rest) :: k)) cs) w := by
  have hr : ∀ w1, (execOp a.eval o).run P w1 = .ok (.value (.chan (some w1.heap.size))) { w1 with heap := w1.heap.push (.chan n #[] false 0 0 false) } := fun w1 => by
    unfold execOp
    rw [hop]
    simp [hx, run_makeChan ht hi kd n h63 hb]
  have he : ∀ w1, (execOp a.eval o).events P w1 #[] = #[] := fun w1 => by
    unfold execOp
    rw [hop]
    simp [hx, events_makeChan ht hi kd n h63 hb]
  exact Co.alloc (g' := fun n => G (b.at (a.put o.dst (.chan (some n))) (.inRegion ops rest :: k)) cs) rfl (fun w1 _ => ⟨#[], by rw [stepG_value ho hw hk (hr w1)]; unfold listed; rw [he w1, seen_none], by simp⟩) hM next
end

section
variable {P : Program} {main : Bool} {Sh : Nat → Prop} {Stop : (Nat → Prop) → Goroutine → World → Prop} {M N : Nat → Prop} {w : World} {n : Nat} {A : Nat → Prop}
theorem Co.skips {b : Frame} {a : Act} {k : List Item} {cs : List Frame} {ops : Array Oper} {i : Nat} {rest : List Nat} {o : Oper} (ho : ops[i]? = some o) (hw : Region.wanted o (yielded ops a.tmps) = true) (hk : b.kind ≠ .early)
    (hN : ∀ b, N b → M b) (hlow : ∀ b, M b → b < w.heap.size) (sim : SimS P P RelN (idr N n A) (execOp a.eval o) (execOp a.eval o)) (hm : ∀ w1, Keeps M w w1 → Mine Sh N n A w1) (hr : ∀ w1, Keeps M w w1 → ∃ w2, (execOp a.eval o).run P w1 = .ok .skip w2)
    (h : ∀ w1, Keeps M w w1 → ∀ w2, (execOp a.eval o).run P w1 = .ok .skip w2 → Co P main Sh Stop (grown M w1 w2) (G (b.at (a.put o.dst undef) (.inRegion ops rest :: k)) cs) w2) : Co P main Sh Stop M (G (b.at a (.inRegion ops (i :: rest) :: k)) cs) w := by
  refine .step rfl (fun w1 hk1 => ?_) fun w1 hk1 g' w2 es he => ?_
  · obtain ⟨w2, hr1⟩ := hr w1 hk1
    have M1 := hm w1 hk1
    cases hrt : (execOp a.eval o).runT P w1 #[] with
    | mk r es0 =>
      have hr2 : r = .ok .skip w2 := by rw [← hr1, ← Sem.runT_fst P _ w1 #[], hrt]
      subst hr2
      obtain ⟨ρ1, v', w2', more, r1, _, r3, r4, r5⟩ := sim.runs #[] (M1.rel w2.drawn) M1.sh M1.big hrt (Nat.le_refl _)
      rw [hrt] at r1
      simp only [Prod.mk.injEq, Result.ok.injEq, Array.empty_append] at r1
      obtain ⟨⟨_, rfl⟩, rfl⟩ := r1
      have hpair : ∀ b b', ρ1 b b' → grown N w1 w2 b' := fun b b' hb => by
        rcases r4.new b b' hb with x | ⟨j, _, x⟩
        · exact .inl (x.1 ▸ x.2)
        · exact .inr ⟨by omega, (r3.lt hb).2⟩
      have hsame : ∀ b b', ρ1 b b' → b = b' := fun b b' hb => by
        rcases r4.new b b' hb with x | ⟨j, x, y⟩
        · exact x.1
        · omega
      refine ⟨_, _, _, stepG_none ho hw hk hr1, r4.size', fun b hb hn => r4.rest b hb fun c hc => hn (hN b (hc.1 ▸ hc.2)), fun b hs hmb => ?_, r4.os, r4.output, r4.tape, fun e he => ?_⟩
      · by_cases hnb : N b
        · exact r4.still b b hs ⟨rfl, hnb⟩
        · exact r4.rest b (Nat.lt_of_lt_of_le (hlow b hmb) hk1.size) fun c hc => hnb (hc.1 ▸ hc.2)
      · have he' : e ∈ es0 := by
          have := seen_sub _ _ he
          have hev : (execOp a.eval o).events P w1 #[] = es0 := by
            show ((execOp a.eval o).runT P w1 #[]).2 = es0
            rw [hrt]
          rwa [hev] at this
        have hup : ∀ b, grown N w1 w2 b → grown M w1 w2 b := fun b hb => hb.imp (hN b) id
        rcases r5 e he' with ⟨ad, c, h1, h2, h3, h4⟩ | ⟨r, c, h1, h2, h3, h4⟩ | h1
        · exact .inl ⟨ad, h1, h2, hup _ (hpair _ _ h3), hsame _ _ h3 ▸ h4⟩
        · exact .inr (.inl ⟨_, h1, h2, h3, hup _ (hpair _ _ h4)⟩)
        · exact .inr (.inr h1)
  · obtain ⟨w3, hr1⟩ := hr w1 hk1
    rw [stepG_none ho hw hk hr1] at he
    cases he
    exact h w1 hk1 _ hr1
theorem Co.storeRow {b : Frame} {a : Act} {k : List Item} {cs : List Frame} {ops : Array Oper} {i : Nat} {rest : List Nat} {o : Oper} {t e : TypeId} {x y : Operand} {β : Nat} {Z X : Array Value} (ho : ops[i]? = some o) (hw : Region.wanted o (yielded ops a.tmps) = true) (hk : b.kind ≠ .early) (hop : o.op = .store t x y) (hx : a.eval x = .pointer (some ⟨β, 0, none⟩)) (hy : a.eval y = .agg X)
    (hβ : w.heap[β]? = some (.cells Z e (0, 0))) (hM : M β) (hS : ¬ Sh β) (hSw : ∀ b, Sh b → b < w.heap.size) (hlow : ∀ b, M b → b < w.heap.size) (hZ : ∀ v ∈ Z, flatC v = true) (hX : ∀ v ∈ X, flatC v = true) (h1 : X.all (·.oneCell') = true) (hz : Z.size = X.size) (hi : (P.info? t).map (·.size) = some X.size)
    (h : ∀ w1, Keeps M w w1 → Co P main Sh Stop M (G (b.at (a.put o.dst undef) (.inRegion ops rest :: k)) cs) (w1.setRow β X)) : Co P main Sh Stop M (G (b.at a (.inRegion ops (i :: rest) :: k)) cs) w := by
  have hb1 : ∀ w1, Keeps M w w1 → w1.heap[β]? = some (.cells Z e (0, 0)) := fun w1 hk1 => (hk1.heap _ hM).trans hβ
  have hr : ∀ w1, Keeps M w w1 → (execOp a.eval o).run P w1 = .ok .skip (w1.setRow β X) := fun w1 hk1 => by
    unfold execOp
    rw [hop]
    simp [hx, hy, Instr.storeAt, Instr.sureAddr, run_storeVar_row w1 β e t Z X (hb1 w1 hk1) hi hz h1]
  refine Co.skips (N := fun b => b = β) (n := 0) (A := fun _ => False) ho hw hk (fun b hb => hb ▸ hM) hlow ?_ (fun w1 hk1 => ⟨fun b hb => ?_, fun b hs hb => absurd (hb ▸ hs) hS, fun b hb => Nat.lt_of_lt_of_le (hSw b hb) hk1.size, Nat.zero_le _⟩) (fun w1 hk1 => ⟨_, hr w1 hk1⟩) fun w1 hk1 w2 hr2 => ?_
  · unfold execOp
    rw [hop]
    simp only [hx, hy]
    refine sim_unit ((sim_sureAddr (.ptr (show RelA (idr (fun b => b = β) 0 fun _ => False) ⟨β, 0, none⟩ ⟨β, 0, none⟩ from ⟨show β = β ∧ β = β from ⟨rfl, rfl⟩, rfl, rfl, fun _ => rfl, Nat.zero_le _⟩))).bd fun ρ1 u u' hle hu => sim_storeVar hu ?_ t)
    exact .agg rfl fun j v v' g1 g2 => by rw [g1] at g2; cases g2; exact flatC_rel (hX _ (Array.mem_of_getElem? g1))
  · subst hb
    refine ⟨_, hb1 w1 hk1, .cells e rfl ⟨rfl, fun i v v' h1 h2 => ?_⟩ fun i h1 h2 => ⟨h1, h2⟩⟩
    rw [h1] at h2
    cases h2
    exact flatC_rel (hZ v (Array.mem_of_getElem? h1))
  · rw [hr w1 hk1] at hr2
    cases hr2
    have hg : grown M w1 (w1.setRow β X) = M := grown_self (by simp [World.setRow])
    rw [hg]
    exact h w1 hk1
end

def bR : Frame := { (default : Frame) with fn := 26, kind := .normal }
noncomputable def bodyR : Code := Tryd.f26.body.getD .skip
noncomputable def ops2R : Array Oper := match bodyR with | .seq _ (.seq _ (.seq (.region _ o _) _)) => o | _ => #[]
noncomputable def rest2R : Code := match bodyR with | .seq _ (.seq _ (.seq _ t)) => t | _ => .skip
noncomputable def condR : Code := match bodyR with | .seq _ (.seq _ (.seq _ (.seq (.seq _ c) _))) => c | _ => .skip
noncomputable def tailR : Code := match bodyR with | .seq _ (.seq _ (.seq _ (.seq _ t))) => t | _ => .skip
noncomputable def ops4R : Array Oper := match condR with | .cond _ (.seq (.region _ o _) _) _ => o | _ => #[]

section
variable {Sh : Nat → Prop} {Stop : (Nat → Prop) → Goroutine → World → Prop} {M : Nat → Prop} {w : World}
theorem enter_R (kv cv nv bv : Value) : Frame.enter Tryd.prog 26 #[kv, cv, nv, bv] .normal = bR.at ⟨#[kv, cv, nv, bv] ++ Array.replicate 61 undef, []⟩ [.code bodyR] := by
  simp [Frame.enter, Frame.at, bR, bodyR, Tryd.func26, Tryd.f26]
noncomputable def call1R (kv nv : Value) (ct : Int) (bp : Option Addr) (bn bc : Nat) (a1 a2 a3 : Int) (v23 : Value) (rest : List Nat) : Frame :=
  bR.at ⟨#[kv, .int .i64 ct, nv, .slice bp bn bc, undef, undef, undef, undef, .slice none 0 0, .int .i64 a3, undef, undef, undef, undef, undef, .slice bp bn bc, .int .i64 bn, .int .i64 a1, .int .i64 a2, .int .i64 a3, undef, kv, nv, v23, undef, undef, undef, undef, undef, undef, undef, undef, undef, undef, undef, undef, undef, undef, undef, undef, undef, undef, undef, undef, undef, undef, undef, undef, undef, undef, undef, undef, undef, undef, undef, undef, undef, undef, undef, undef, undef, undef, undef, undef, undef], []⟩ [.inRegion ops2R rest, .code rest2R]
set_option maxRecDepth 100000 in
theorem first_R (kv nv : Value) (ct : Int) (bp : Option Addr) (bn bc : Nat) (a1 a2 a3 : Int) (e1 : IntKind.i64.wrap ((bn : Int) + 64) = a1) (e2 : IntKind.i64.wrap (a1 - 1) = a2) (e3 : IntKind.i64.wrap (a2.tdiv 64) = a3) (cs : List Frame)
    (next : Co Tryd.prog true Sh Stop M (G (Frame.enter Tryd.prog 44 #[kv, nv] .normal) (call1R kv nv ct bp bn bc a1 a2 a3 undef [2, 3, 4, 5, 6, 7, 8] :: cs)) w) :
    Co Tryd.prog true Sh Stop M (G (Frame.enter Tryd.prog 26 #[kv, .int .i64 ct, nv, .slice bp bn bc] .normal) cs) w := by
  rw [enter_R]
  simp only [call1R, ops2R, rest2R, bodyR, Tryd.f26, Option.getD_some] at next ⊢
  walk_nrm
  repeat (first | (first | with_reducible refine Co.ctlG (fun _ => by first | exact stepG_seq | exact stepG_skip | exact stepG_block | exact stepG_loop | exact stepG_inLoop | exact stepG_inBlock | exact stepG_region_end) ?_ | (with_reducible refine Co.ctlG (fun _ => stepG_region) ?_; (try simp only [List.size_toArray]); (try simp only [List.length_cons]); (try simp only [List.length_nil]); (try simp only [Nat.zero_add]); (try simp only [Nat.reduceAdd]); (try simp only [List.range]); (try simp only [List.range.loop]))) | (refine Co.value rfl rfl (by decide) (fun _ => by simp [execOp, Act.eval]; rfl) (fun _ => by simp [execOp, Act.eval]) ?_; walk_nrm))
  refine Co.value (v := .int .i64 bn) rfl rfl (by decide) (fun _ => by simp [go_sem, execOp, Act.eval]) (fun _ => by simp [go_sem, execOp, Act.eval]) ?_
  walk_nrm
  refine Co.value (v := .int .i64 a1) rfl rfl (by decide) (fun _ => by simp [go_sem, execOp, Act.eval, e1]) (fun _ => by simp [go_sem, execOp, Act.eval]) ?_
  walk_nrm
  refine Co.value (v := .int .i64 a2) rfl rfl (by decide) (fun _ => by simp [go_sem, execOp, Act.eval, e2]) (fun _ => by simp [go_sem, execOp, Act.eval]) ?_
  walk_nrm
  refine Co.value (v := .int .i64 a3) rfl rfl (by decide) (fun _ => by simp [go_sem, execOp, Act.eval, e3]) (fun _ => by simp [go_sem, execOp, Act.eval]) ?_
  walk_nrm
  iterate 1 (refine Co.value rfl rfl (by decide) (fun _ => by simp [execOp, Act.eval]; rfl) (fun _ => by simp [execOp, Act.eval]) ?_; walk_nrm)
  iterate 3 (first | with_reducible refine Co.ctlG (fun _ => by first | exact stepG_seq | exact stepG_skip | exact stepG_block | exact stepG_loop | exact stepG_inLoop | exact stepG_inBlock | exact stepG_region_end) ?_ | (with_reducible refine Co.ctlG (fun _ => stepG_region) ?_; (try simp only [List.size_toArray]); (try simp only [List.length_cons]); (try simp only [List.length_nil]); (try simp only [Nat.zero_add]); (try simp only [Nat.reduceAdd]); (try simp only [List.range]); (try simp only [List.range.loop])))
  iterate 2 (refine Co.value rfl rfl (by decide) (fun _ => by simp [execOp, Act.eval]; rfl) (fun _ => by simp [execOp, Act.eval]) ?_; walk_nrm)
  refine Co.call rfl rfl (by decide) rfl Tryd.func44 (by kernel_rfl) (by kernel_rfl) ?_
  walk_nrm
  exact next
set_option maxRecDepth 100000 in
theorem finish_R (kv nv : Value) (ct : Int) (bp : Option Addr) (bn bc : Nat) (a1 a2 a3 : Int) (v : Value) : (call1R kv nv ct bp bn bc a1 a2 a3 undef [2, 3, 4, 5, 6, 7, 8]).finish v = call1R kv nv ct bp bn bc a1 a2 a3 v [3, 4, 5, 6, 7, 8] := by
  simp only [call1R, ops2R, rest2R, bodyR, Tryd.f26, Option.getD_some]
  rfl
noncomputable def made1R (kv nv : Value) (ct : Int) (bp : Option Addr) (bn bc : Nat) (a1 a2 a3 : Int) (X : Array Value) (ok : Bool) (β : Nat) : Frame :=
  bR.at ⟨#[kv, .int .i64 ct, nv, .slice bp bn bc, undef, undef, undef, undef, .slice none 0 0, .int .i64 a3, .pointer (some ⟨β, 0, none⟩), .bool ok, undef, undef, undef, .slice bp bn bc, .int .i64 bn, .int .i64 a1, .int .i64 a2, .int .i64 a3, .tuple #[.agg X, .bool ok], kv, nv, .tuple #[.agg X, .bool ok], .agg X, .bool ok, undef, undef, undef, undef, undef, undef, undef, undef, undef, undef, undef, undef, undef, undef, undef, undef, undef, undef, undef, undef, undef, undef, undef, undef, undef, undef, undef, undef, undef, undef, undef, undef, undef, undef, undef, undef, undef, undef, undef], []⟩ [.code rest2R]
theorem infoS : (Tryd.prog.info? 53).map (fun i => (i.zero, i.size)) = some (some (.agg (Array.replicate 16 (.int .u32 0))), 16) := by kernel_rfl
set_option maxRecDepth 100000 in
theorem second_R (kv nv : Value) (ct : Int) (bp : Option Addr) (bn bc : Nat) (a1 a2 a3 : Int) (X : Array Value) (ok : Bool) (hX : ∀ v ∈ X, flatC v = true) (h16 : X.size = 16) (h1 : X.all (·.oneCell') = true) (cs : List Frame) (hM : ∀ b, M b → b < w.heap.size) (hSw : ∀ b, Sh b → b < w.heap.size)
    (next : ∀ β w1, Keeps M w w1 → w.heap.size ≤ β → β < w1.heap.size → w1.heap[β]? = some (.cells X 53 (0, 0)) → Co Tryd.prog true Sh Stop (fun b => M b ∨ b = β) (G (made1R kv nv ct bp bn bc a1 a2 a3 X ok β) cs) w1) :
    Co Tryd.prog true Sh Stop M (G (call1R kv nv ct bp bn bc a1 a2 a3 (.tuple #[.agg X, .bool ok]) [3, 4, 5, 6, 7, 8]) cs) w := by
  obtain ⟨ti, hti, hzs⟩ := Option.map_eq_some_iff.1 infoS
  simp only [Prod.mk.injEq] at hzs
  simp only [call1R, made1R, ops2R, rest2R, bodyR, Tryd.f26, Option.getD_some] at next ⊢
  (refine Co.value rfl rfl (by decide) (fun _ => by simp [execOp, Act.eval]; rfl) (fun _ => by simp [execOp, Act.eval]) ?_; walk_nrm)
  refine Co.value (v := .agg X) rfl rfl (by decide) (fun _ => by simp [go_sem, execOp, Act.eval]) (fun _ => by simp [go_sem, execOp, Act.eval]) ?_
  walk_nrm
  refine Co.value (v := .bool ok) rfl rfl (by decide) (fun _ => by simp [go_sem, execOp, Act.eval]) (fun _ => by simp [go_sem, execOp, Act.eval]) ?_
  walk_nrm
  refine Co.allocV rfl rfl (by decide) rfl hti hzs.1 hM fun w1 hk1 => ?_
  walk_nrm
  have hn1 : (w1.heap.push (.cells (Array.replicate 16 (.int .u32 0)) 53))[w1.heap.size]? = some (.cells (Array.replicate 16 (.int .u32 0)) 53 (0, 0)) := by simp
  have hlow1 : ∀ b, (M b ∨ b = w1.heap.size) → b < (w1.heap.push (.cells (Array.replicate 16 (.int .u32 0)) 53)).size := fun b hb => by
    have h1 := hk1.size
    simp only [Array.size_push]
    rcases hb with hb | hb
    · have := hM b hb; omega
    · omega
  refine Co.storeRow (Z := Array.replicate 16 (.int .u32 0)) (X := X) (e := 53) (β := w1.heap.size) rfl rfl (by decide) rfl rfl rfl hn1 (.inr rfl) (fun hs => absurd (hSw _ hs) (by have := hk1.size; omega)) (fun b hb => by have := hSw b hb; have := hk1.size; show b < (w1.heap.push _).size; simp only [Array.size_push]; omega) hlow1 (fun v hv => by rw [Array.eq_of_mem_replicate hv]; rfl) hX h1 (by simp [h16]) (by rw [hti, h16]; exact congrArg some hzs.2) fun w2 hk2 => ?_
  walk_nrm
  (refine Co.value rfl rfl (by decide) (fun _ => by simp [execOp, Act.eval]; rfl) (fun _ => by simp [execOp, Act.eval]) ?_; walk_nrm)
  (first | with_reducible refine Co.ctlG (fun _ => by first | exact stepG_seq | exact stepG_skip | exact stepG_block | exact stepG_loop | exact stepG_inLoop | exact stepG_inBlock | exact stepG_region_end) ?_ | (with_reducible refine Co.ctlG (fun _ => stepG_region) ?_; (try simp only [List.size_toArray]); (try simp only [List.length_cons]); (try simp only [List.length_nil]); (try simp only [Nat.zero_add]); (try simp only [Nat.reduceAdd]); (try simp only [List.range]); (try simp only [List.range.loop])))
  have hne : ∀ b, M b → b ≠ w1.heap.size := fun b hb => by have := hM b hb; have := hk1.size; omega
  have hrow : ∀ b, (w2.setRow w1.heap.size X).heap[b]? = if w1.heap.size = b then (w2.heap[b]?).map (fun o => match o with | .cells _ elem frozen => .cells X elem frozen | o => o) else w2.heap[b]? := fun b => by
    simp only [World.setRow, Array.getElem?_modify]
    split
    · cases w2.heap[b]? with
      | none => rfl
      | some o => cases o <;> rfl
    · rfl
  have hkA : Keeps M w1 { w1 with heap := w1.heap.push (.cells (Array.replicate 16 (.int .u32 0)) 53) } := ⟨fun b hb => by
    have hlt : b < w1.heap.size := by have := hM b hb; have := hk1.size; omega
    show (w1.heap.push _)[b]? = _
    rw [Array.getElem?_push_lt hlt, Array.getElem?_eq_getElem hlt], by simp, rfl, rfl, rfl⟩
  have hkB : Keeps M w2 (w2.setRow w1.heap.size X) := ⟨fun b hb => by rw [hrow, if_neg (fun e => hne b hb e.symm)], by simp [World.setRow], rfl, rfl, rfl⟩
  have hsz2 := hk2.size
  simp only [Array.size_push] at hsz2
  refine next w1.heap.size (w2.setRow w1.heap.size X) (((hk1.trans hkA).trans (hk2.less fun b hb => .inl hb)).trans hkB) hk1.size (by simp [World.setRow]; omega) ?_
  rw [hrow, if_pos rfl, (hk2.heap _ (.inr rfl)).trans hn1]
  rfl
set_option maxRecDepth 100000 in
theorem no1_R (kv nv : Value) (ct : Int) (bp : Option Addr) (bn bc : Nat) (a1 a2 a3 : Int) (X : Array Value) (β : Nat)  (cs : List Frame)
    (next : ∀ tmps todo, tmps.getD 8 undef = .slice none 0 0 → Co Tryd.prog true Sh Stop M (G { bR.at ⟨tmps, []⟩ todo with mode := .returning } cs) w) :
    Co Tryd.prog true Sh Stop M (G (made1R kv nv ct bp bn bc a1 a2 a3 X false β) cs) w := by
  simp only [made1R, rest2R, bodyR, Tryd.f26, Option.getD_some]
  iterate 3 (first | with_reducible refine Co.ctlG (fun _ => by first | exact stepG_seq | exact stepG_skip | exact stepG_block | exact stepG_loop | exact stepG_inLoop | exact stepG_inBlock | exact stepG_region_end) ?_ | (with_reducible refine Co.ctlG (fun _ => stepG_region) ?_; (try simp only [List.size_toArray]); (try simp only [List.length_cons]); (try simp only [List.length_nil]); (try simp only [Nat.zero_add]); (try simp only [Nat.reduceAdd]); (try simp only [List.range]); (try simp only [List.range.loop])))
  refine Co.value (v := .bool false) rfl rfl (by decide) (fun _ => by simp [go_sem, execOp, Act.eval]) (fun _ => by simp [go_sem, execOp, Act.eval]) ?_
  walk_nrm
  refine Co.value (v := .bool true) rfl rfl (by decide) (fun _ => by simp [go_sem, execOp, Act.eval]) (fun _ => by simp [go_sem, execOp, Act.eval]) ?_
  walk_nrm
  refine Co.value (v := .bool true) rfl rfl (by decide) (fun _ => by simp [go_sem, execOp, Act.eval]) (fun _ => by simp [go_sem, execOp, Act.eval]) ?_
  walk_nrm
  refine Co.unwanted rfl rfl ?_
  walk_nrm
  refine Co.unwanted rfl rfl ?_
  walk_nrm
  refine Co.unwanted rfl rfl ?_
  walk_nrm
  refine Co.value (v := .bool true) rfl rfl (by decide) (fun _ => by simp [go_sem, execOp, Act.eval]) (fun _ => by simp [go_sem, execOp, Act.eval]) ?_
  walk_nrm
  refine Co.value (v := .bool true) rfl rfl (by decide) (fun _ => by simp [go_sem, execOp, Act.eval]) (fun _ => by simp [go_sem, execOp, Act.eval]) ?_
  walk_nrm
  refine Co.unwanted rfl rfl ?_
  walk_nrm
  refine Co.unwanted rfl rfl ?_
  walk_nrm
  refine Co.value (v := .bool true) rfl rfl (by decide) (fun _ => by simp [go_sem, execOp, Act.eval]) (fun _ => by simp [go_sem, execOp, Act.eval]) ?_
  walk_nrm
  refine Co.value (v := .bool true) rfl rfl (by decide) (fun _ => by simp [go_sem, execOp, Act.eval]) (fun _ => by simp [go_sem, execOp, Act.eval]) ?_
  walk_nrm
  refine Co.unwanted rfl rfl ?_
  walk_nrm
  refine Co.unwanted rfl rfl ?_
  walk_nrm
  refine Co.unwanted rfl rfl ?_
  walk_nrm
  refine Co.unwanted rfl rfl ?_
  walk_nrm
  refine Co.value (v := .bool true) rfl rfl (by decide) (fun _ => by simp [go_sem, execOp, Act.eval]) (fun _ => by simp [go_sem, execOp, Act.eval]) ?_
  walk_nrm
  (first | with_reducible refine Co.ctlG (fun _ => by first | exact stepG_seq | exact stepG_skip | exact stepG_block | exact stepG_loop | exact stepG_inLoop | exact stepG_inBlock | exact stepG_region_end) ?_ | (with_reducible refine Co.ctlG (fun _ => stepG_region) ?_; (try simp only [List.size_toArray]); (try simp only [List.length_cons]); (try simp only [List.length_nil]); (try simp only [Nat.zero_add]); (try simp only [Nat.reduceAdd]); (try simp only [List.range]); (try simp only [List.range.loop])))
  refine Co.ctlG (fun _ => stepG_cond (t := true) rfl) ?_
  simp only [if_true]
  iterate 2 (first | with_reducible refine Co.ctlG (fun _ => by first | exact stepG_seq | exact stepG_skip | exact stepG_block | exact stepG_loop | exact stepG_inLoop | exact stepG_inBlock | exact stepG_region_end) ?_ | (with_reducible refine Co.ctlG (fun _ => stepG_region) ?_; (try simp only [List.size_toArray]); (try simp only [List.length_cons]); (try simp only [List.length_nil]); (try simp only [Nat.zero_add]); (try simp only [Nat.reduceAdd]); (try simp only [List.range]); (try simp only [List.range.loop])))
  (refine Co.value rfl rfl (by decide) (fun _ => by simp [execOp, Act.eval]; rfl) (fun _ => by simp [execOp, Act.eval]) ?_; walk_nrm)
  (first | with_reducible refine Co.ctlG (fun _ => by first | exact stepG_seq | exact stepG_skip | exact stepG_block | exact stepG_loop | exact stepG_inLoop | exact stepG_inBlock | exact stepG_region_end) ?_ | (with_reducible refine Co.ctlG (fun _ => stepG_region) ?_; (try simp only [List.size_toArray]); (try simp only [List.length_cons]); (try simp only [List.length_nil]); (try simp only [Nat.zero_add]); (try simp only [Nat.reduceAdd]); (try simp only [List.range]); (try simp only [List.range.loop])))
  refine Co.ctlG (fun _ => stepG_ret') ?_
  exact next _ _ rfl
set_option maxRecDepth 100000 in
theorem no2_R (kv nv : Value) (ct : Int) (bp : Option Addr) (bn bc : Nat) (a1 a2 a3 : Int) (X : Array Value) (β : Nat) (h1 : (4000 : Int) < bn) (cs : List Frame)
    (next : ∀ tmps todo, tmps.getD 8 undef = .slice none 0 0 → Co Tryd.prog true Sh Stop M (G { bR.at ⟨tmps, []⟩ todo with mode := .returning } cs) w) :
    Co Tryd.prog true Sh Stop M (G (made1R kv nv ct bp bn bc a1 a2 a3 X true β) cs) w := by
  simp only [made1R, rest2R, bodyR, Tryd.f26, Option.getD_some]
  iterate 3 (first | with_reducible refine Co.ctlG (fun _ => by first | exact stepG_seq | exact stepG_skip | exact stepG_block | exact stepG_loop | exact stepG_inLoop | exact stepG_inBlock | exact stepG_region_end) ?_ | (with_reducible refine Co.ctlG (fun _ => stepG_region) ?_; (try simp only [List.size_toArray]); (try simp only [List.length_cons]); (try simp only [List.length_nil]); (try simp only [Nat.zero_add]); (try simp only [Nat.reduceAdd]); (try simp only [List.range]); (try simp only [List.range.loop])))
  refine Co.value (v := .bool true) rfl rfl (by decide) (fun _ => by simp [go_sem, execOp, Act.eval]) (fun _ => by simp [go_sem, execOp, Act.eval]) ?_
  walk_nrm
  refine Co.value (v := .bool false) rfl rfl (by decide) (fun _ => by simp [go_sem, execOp, Act.eval]) (fun _ => by simp [go_sem, execOp, Act.eval]) ?_
  walk_nrm
  refine Co.value (v := .bool false) rfl rfl (by decide) (fun _ => by simp [go_sem, execOp, Act.eval]) (fun _ => by simp [go_sem, execOp, Act.eval]) ?_
  walk_nrm
  refine Co.value (v := .slice bp bn bc) rfl rfl (by decide) (fun _ => by simp [go_sem, execOp, Act.eval]) (fun _ => by simp [go_sem, execOp, Act.eval]) ?_
  walk_nrm
  refine Co.value (v := .int .i64 bn) rfl rfl (by decide) (fun _ => by simp [go_sem, execOp, Act.eval]) (fun _ => by simp [go_sem, execOp, Act.eval]) ?_
  walk_nrm
  refine Co.value (v := .bool true) rfl rfl (by decide) (fun _ => by simp [go_sem, execOp, Act.eval, h1]) (fun _ => by simp [go_sem, execOp, Act.eval]) ?_
  walk_nrm
  refine Co.value (v := .bool true) rfl rfl (by decide) (fun _ => by simp [go_sem, execOp, Act.eval]) (fun _ => by simp [go_sem, execOp, Act.eval]) ?_
  walk_nrm
  refine Co.value (v := .bool true) rfl rfl (by decide) (fun _ => by simp [go_sem, execOp, Act.eval]) (fun _ => by simp [go_sem, execOp, Act.eval]) ?_
  walk_nrm
  refine Co.unwanted rfl rfl ?_
  walk_nrm
  refine Co.unwanted rfl rfl ?_
  walk_nrm
  refine Co.value (v := .bool true) rfl rfl (by decide) (fun _ => by simp [go_sem, execOp, Act.eval]) (fun _ => by simp [go_sem, execOp, Act.eval]) ?_
  walk_nrm
  refine Co.value (v := .bool true) rfl rfl (by decide) (fun _ => by simp [go_sem, execOp, Act.eval]) (fun _ => by simp [go_sem, execOp, Act.eval]) ?_
  walk_nrm
  refine Co.unwanted rfl rfl ?_
  walk_nrm
  refine Co.unwanted rfl rfl ?_
  walk_nrm
  refine Co.unwanted rfl rfl ?_
  walk_nrm
  refine Co.unwanted rfl rfl ?_
  walk_nrm
  refine Co.value (v := .bool true) rfl rfl (by decide) (fun _ => by simp [go_sem, execOp, Act.eval]) (fun _ => by simp [go_sem, execOp, Act.eval]) ?_
  walk_nrm
  (first | with_reducible refine Co.ctlG (fun _ => by first | exact stepG_seq | exact stepG_skip | exact stepG_block | exact stepG_loop | exact stepG_inLoop | exact stepG_inBlock | exact stepG_region_end) ?_ | (with_reducible refine Co.ctlG (fun _ => stepG_region) ?_; (try simp only [List.size_toArray]); (try simp only [List.length_cons]); (try simp only [List.length_nil]); (try simp only [Nat.zero_add]); (try simp only [Nat.reduceAdd]); (try simp only [List.range]); (try simp only [List.range.loop])))
  refine Co.ctlG (fun _ => stepG_cond (t := true) rfl) ?_
  simp only [if_true]
  iterate 2 (first | with_reducible refine Co.ctlG (fun _ => by first | exact stepG_seq | exact stepG_skip | exact stepG_block | exact stepG_loop | exact stepG_inLoop | exact stepG_inBlock | exact stepG_region_end) ?_ | (with_reducible refine Co.ctlG (fun _ => stepG_region) ?_; (try simp only [List.size_toArray]); (try simp only [List.length_cons]); (try simp only [List.length_nil]); (try simp only [Nat.zero_add]); (try simp only [Nat.reduceAdd]); (try simp only [List.range]); (try simp only [List.range.loop])))
  (refine Co.value rfl rfl (by decide) (fun _ => by simp [execOp, Act.eval]; rfl) (fun _ => by simp [execOp, Act.eval]) ?_; walk_nrm)
  (first | with_reducible refine Co.ctlG (fun _ => by first | exact stepG_seq | exact stepG_skip | exact stepG_block | exact stepG_loop | exact stepG_inLoop | exact stepG_inBlock | exact stepG_region_end) ?_ | (with_reducible refine Co.ctlG (fun _ => stepG_region) ?_; (try simp only [List.size_toArray]); (try simp only [List.length_cons]); (try simp only [List.length_nil]); (try simp only [Nat.zero_add]); (try simp only [Nat.reduceAdd]); (try simp only [List.range]); (try simp only [List.range.loop])))
  refine Co.ctlG (fun _ => stepG_ret') ?_
  exact next _ _ rfl
set_option maxRecDepth 100000 in
theorem no3_R (kv nv : Value) (ct : Int) (bp : Option Addr) (bn bc : Nat) (a1 a2 a3 : Int) (X : Array Value) (β : Nat) (h1 : ¬ (4000 : Int) < bn) (h2 : ct < 0) (cs : List Frame)
    (next : ∀ tmps todo, tmps.getD 8 undef = .slice none 0 0 → Co Tryd.prog true Sh Stop M (G { bR.at ⟨tmps, []⟩ todo with mode := .returning } cs) w) :
    Co Tryd.prog true Sh Stop M (G (made1R kv nv ct bp bn bc a1 a2 a3 X true β) cs) w := by
  simp only [made1R, rest2R, bodyR, Tryd.f26, Option.getD_some]
  iterate 3 (first | with_reducible refine Co.ctlG (fun _ => by first | exact stepG_seq | exact stepG_skip | exact stepG_block | exact stepG_loop | exact stepG_inLoop | exact stepG_inBlock | exact stepG_region_end) ?_ | (with_reducible refine Co.ctlG (fun _ => stepG_region) ?_; (try simp only [List.size_toArray]); (try simp only [List.length_cons]); (try simp only [List.length_nil]); (try simp only [Nat.zero_add]); (try simp only [Nat.reduceAdd]); (try simp only [List.range]); (try simp only [List.range.loop])))
  refine Co.value (v := .bool true) rfl rfl (by decide) (fun _ => by simp [go_sem, execOp, Act.eval]) (fun _ => by simp [go_sem, execOp, Act.eval]) ?_
  walk_nrm
  refine Co.value (v := .bool false) rfl rfl (by decide) (fun _ => by simp [go_sem, execOp, Act.eval]) (fun _ => by simp [go_sem, execOp, Act.eval]) ?_
  walk_nrm
  refine Co.value (v := .bool false) rfl rfl (by decide) (fun _ => by simp [go_sem, execOp, Act.eval]) (fun _ => by simp [go_sem, execOp, Act.eval]) ?_
  walk_nrm
  refine Co.value (v := .slice bp bn bc) rfl rfl (by decide) (fun _ => by simp [go_sem, execOp, Act.eval]) (fun _ => by simp [go_sem, execOp, Act.eval]) ?_
  walk_nrm
  refine Co.value (v := .int .i64 bn) rfl rfl (by decide) (fun _ => by simp [go_sem, execOp, Act.eval]) (fun _ => by simp [go_sem, execOp, Act.eval]) ?_
  walk_nrm
  refine Co.value (v := .bool false) rfl rfl (by decide) (fun _ => by simp [go_sem, execOp, Act.eval, h1]) (fun _ => by simp [go_sem, execOp, Act.eval]) ?_
  walk_nrm
  refine Co.value (v := .bool false) rfl rfl (by decide) (fun _ => by simp [go_sem, execOp, Act.eval]) (fun _ => by simp [go_sem, execOp, Act.eval]) ?_
  walk_nrm
  refine Co.value (v := .bool false) rfl rfl (by decide) (fun _ => by simp [go_sem, execOp, Act.eval]) (fun _ => by simp [go_sem, execOp, Act.eval]) ?_
  walk_nrm
  refine Co.value (v := .int .i64 ct) rfl rfl (by decide) (fun _ => by simp [go_sem, execOp, Act.eval]) (fun _ => by simp [go_sem, execOp, Act.eval]) ?_
  walk_nrm
  refine Co.value (v := .bool true) rfl rfl (by decide) (fun _ => by simp [go_sem, execOp, Act.eval, h2]) (fun _ => by simp [go_sem, execOp, Act.eval]) ?_
  walk_nrm
  refine Co.value (v := .bool true) rfl rfl (by decide) (fun _ => by simp [go_sem, execOp, Act.eval]) (fun _ => by simp [go_sem, execOp, Act.eval]) ?_
  walk_nrm
  refine Co.value (v := .bool true) rfl rfl (by decide) (fun _ => by simp [go_sem, execOp, Act.eval]) (fun _ => by simp [go_sem, execOp, Act.eval]) ?_
  walk_nrm
  refine Co.unwanted rfl rfl ?_
  walk_nrm
  refine Co.unwanted rfl rfl ?_
  walk_nrm
  refine Co.unwanted rfl rfl ?_
  walk_nrm
  refine Co.unwanted rfl rfl ?_
  walk_nrm
  refine Co.value (v := .bool true) rfl rfl (by decide) (fun _ => by simp [go_sem, execOp, Act.eval]) (fun _ => by simp [go_sem, execOp, Act.eval]) ?_
  walk_nrm
  (first | with_reducible refine Co.ctlG (fun _ => by first | exact stepG_seq | exact stepG_skip | exact stepG_block | exact stepG_loop | exact stepG_inLoop | exact stepG_inBlock | exact stepG_region_end) ?_ | (with_reducible refine Co.ctlG (fun _ => stepG_region) ?_; (try simp only [List.size_toArray]); (try simp only [List.length_cons]); (try simp only [List.length_nil]); (try simp only [Nat.zero_add]); (try simp only [Nat.reduceAdd]); (try simp only [List.range]); (try simp only [List.range.loop])))
  refine Co.ctlG (fun _ => stepG_cond (t := true) rfl) ?_
  simp only [if_true]
  iterate 2 (first | with_reducible refine Co.ctlG (fun _ => by first | exact stepG_seq | exact stepG_skip | exact stepG_block | exact stepG_loop | exact stepG_inLoop | exact stepG_inBlock | exact stepG_region_end) ?_ | (with_reducible refine Co.ctlG (fun _ => stepG_region) ?_; (try simp only [List.size_toArray]); (try simp only [List.length_cons]); (try simp only [List.length_nil]); (try simp only [Nat.zero_add]); (try simp only [Nat.reduceAdd]); (try simp only [List.range]); (try simp only [List.range.loop])))
  (refine Co.value rfl rfl (by decide) (fun _ => by simp [execOp, Act.eval]; rfl) (fun _ => by simp [execOp, Act.eval]) ?_; walk_nrm)
  (first | with_reducible refine Co.ctlG (fun _ => by first | exact stepG_seq | exact stepG_skip | exact stepG_block | exact stepG_loop | exact stepG_inLoop | exact stepG_inBlock | exact stepG_region_end) ?_ | (with_reducible refine Co.ctlG (fun _ => stepG_region) ?_; (try simp only [List.size_toArray]); (try simp only [List.length_cons]); (try simp only [List.length_nil]); (try simp only [Nat.zero_add]); (try simp only [Nat.reduceAdd]); (try simp only [List.range]); (try simp only [List.range.loop])))
  refine Co.ctlG (fun _ => stepG_ret') ?_
  exact next _ _ rfl
set_option maxRecDepth 100000 in
theorem no4_R (kv nv : Value) (ct : Int) (bp : Option Addr) (bn bc : Nat) (a1 a2 a3 : Int) (a4 : Int) (X : Array Value) (β : Nat) (h1 : ¬ (4000 : Int) < bn) (h2 : ¬ ct < 0) (e4 : IntKind.i64.wrap (4294967296 - ct) = a4) (h3 : a4 < a3) (cs : List Frame)
    (next : ∀ tmps todo, tmps.getD 8 undef = .slice none 0 0 → Co Tryd.prog true Sh Stop M (G { bR.at ⟨tmps, []⟩ todo with mode := .returning } cs) w) :
    Co Tryd.prog true Sh Stop M (G (made1R kv nv ct bp bn bc a1 a2 a3 X true β) cs) w := by
  simp only [made1R, rest2R, bodyR, Tryd.f26, Option.getD_some]
  iterate 3 (first | with_reducible refine Co.ctlG (fun _ => by first | exact stepG_seq | exact stepG_skip | exact stepG_block | exact stepG_loop | exact stepG_inLoop | exact stepG_inBlock | exact stepG_region_end) ?_ | (with_reducible refine Co.ctlG (fun _ => stepG_region) ?_; (try simp only [List.size_toArray]); (try simp only [List.length_cons]); (try simp only [List.length_nil]); (try simp only [Nat.zero_add]); (try simp only [Nat.reduceAdd]); (try simp only [List.range]); (try simp only [List.range.loop])))
  refine Co.value (v := .bool true) rfl rfl (by decide) (fun _ => by simp [go_sem, execOp, Act.eval]) (fun _ => by simp [go_sem, execOp, Act.eval]) ?_
  walk_nrm
  refine Co.value (v := .bool false) rfl rfl (by decide) (fun _ => by simp [go_sem, execOp, Act.eval]) (fun _ => by simp [go_sem, execOp, Act.eval]) ?_
  walk_nrm
  refine Co.value (v := .bool false) rfl rfl (by decide) (fun _ => by simp [go_sem, execOp, Act.eval]) (fun _ => by simp [go_sem, execOp, Act.eval]) ?_
  walk_nrm
  refine Co.value (v := .slice bp bn bc) rfl rfl (by decide) (fun _ => by simp [go_sem, execOp, Act.eval]) (fun _ => by simp [go_sem, execOp, Act.eval]) ?_
  walk_nrm
  refine Co.value (v := .int .i64 bn) rfl rfl (by decide) (fun _ => by simp [go_sem, execOp, Act.eval]) (fun _ => by simp [go_sem, execOp, Act.eval]) ?_
  walk_nrm
  refine Co.value (v := .bool false) rfl rfl (by decide) (fun _ => by simp [go_sem, execOp, Act.eval, h1]) (fun _ => by simp [go_sem, execOp, Act.eval]) ?_
  walk_nrm
  refine Co.value (v := .bool false) rfl rfl (by decide) (fun _ => by simp [go_sem, execOp, Act.eval]) (fun _ => by simp [go_sem, execOp, Act.eval]) ?_
  walk_nrm
  refine Co.value (v := .bool false) rfl rfl (by decide) (fun _ => by simp [go_sem, execOp, Act.eval]) (fun _ => by simp [go_sem, execOp, Act.eval]) ?_
  walk_nrm
  refine Co.value (v := .int .i64 ct) rfl rfl (by decide) (fun _ => by simp [go_sem, execOp, Act.eval]) (fun _ => by simp [go_sem, execOp, Act.eval]) ?_
  walk_nrm
  refine Co.value (v := .bool false) rfl rfl (by decide) (fun _ => by simp [go_sem, execOp, Act.eval, h2]) (fun _ => by simp [go_sem, execOp, Act.eval]) ?_
  walk_nrm
  refine Co.value (v := .bool false) rfl rfl (by decide) (fun _ => by simp [go_sem, execOp, Act.eval]) (fun _ => by simp [go_sem, execOp, Act.eval]) ?_
  walk_nrm
  refine Co.value (v := .bool false) rfl rfl (by decide) (fun _ => by simp [go_sem, execOp, Act.eval]) (fun _ => by simp [go_sem, execOp, Act.eval]) ?_
  walk_nrm
  refine Co.value (v := .int .i64 a3) rfl rfl (by decide) (fun _ => by simp [go_sem, execOp, Act.eval]) (fun _ => by simp [go_sem, execOp, Act.eval]) ?_
  walk_nrm
  refine Co.value (v := .int .i64 ct) rfl rfl (by decide) (fun _ => by simp [go_sem, execOp, Act.eval]) (fun _ => by simp [go_sem, execOp, Act.eval]) ?_
  walk_nrm
  refine Co.value (v := .int .i64 a4) rfl rfl (by decide) (fun _ => by simp [go_sem, execOp, Act.eval, e4]) (fun _ => by simp [go_sem, execOp, Act.eval]) ?_
  walk_nrm
  refine Co.value (v := .bool true) rfl rfl (by decide) (fun _ => by simp [go_sem, execOp, Act.eval, h3]) (fun _ => by simp [go_sem, execOp, Act.eval]) ?_
  walk_nrm
  refine Co.value (v := .bool true) rfl rfl (by decide) (fun _ => by simp [go_sem, execOp, Act.eval]) (fun _ => by simp [go_sem, execOp, Act.eval]) ?_
  walk_nrm
  (first | with_reducible refine Co.ctlG (fun _ => by first | exact stepG_seq | exact stepG_skip | exact stepG_block | exact stepG_loop | exact stepG_inLoop | exact stepG_inBlock | exact stepG_region_end) ?_ | (with_reducible refine Co.ctlG (fun _ => stepG_region) ?_; (try simp only [List.size_toArray]); (try simp only [List.length_cons]); (try simp only [List.length_nil]); (try simp only [Nat.zero_add]); (try simp only [Nat.reduceAdd]); (try simp only [List.range]); (try simp only [List.range.loop])))
  refine Co.ctlG (fun _ => stepG_cond (t := true) rfl) ?_
  simp only [if_true]
  iterate 2 (first | with_reducible refine Co.ctlG (fun _ => by first | exact stepG_seq | exact stepG_skip | exact stepG_block | exact stepG_loop | exact stepG_inLoop | exact stepG_inBlock | exact stepG_region_end) ?_ | (with_reducible refine Co.ctlG (fun _ => stepG_region) ?_; (try simp only [List.size_toArray]); (try simp only [List.length_cons]); (try simp only [List.length_nil]); (try simp only [Nat.zero_add]); (try simp only [Nat.reduceAdd]); (try simp only [List.range]); (try simp only [List.range.loop])))
  (refine Co.value rfl rfl (by decide) (fun _ => by simp [execOp, Act.eval]; rfl) (fun _ => by simp [execOp, Act.eval]) ?_; walk_nrm)
  (first | with_reducible refine Co.ctlG (fun _ => by first | exact stepG_seq | exact stepG_skip | exact stepG_block | exact stepG_loop | exact stepG_inLoop | exact stepG_inBlock | exact stepG_region_end) ?_ | (with_reducible refine Co.ctlG (fun _ => stepG_region) ?_; (try simp only [List.size_toArray]); (try simp only [List.length_cons]); (try simp only [List.length_nil]); (try simp only [Nat.zero_add]); (try simp only [Nat.reduceAdd]); (try simp only [List.range]); (try simp only [List.range.loop])))
  refine Co.ctlG (fun _ => stepG_ret') ?_
  exact next _ _ rfl
noncomputable def goodR (kv nv : Value) (ct : Int) (bp : Option Addr) (bn bc : Nat) (a1 a2 a3 : Int) (a4 : Int) (X : Array Value) (β : Nat) : Frame := bR.at ⟨#[kv, .int .i64 ct, nv, .slice bp bn bc, undef, undef, undef, undef, .slice none 0 0, .int .i64 a3, .pointer (some ⟨β, 0, none⟩), .bool true, undef, undef, undef, .slice bp bn bc, .int .i64 bn, .int .i64 a1, .int .i64 a2, .int .i64 a3, .tuple #[.agg X, .bool true], kv, nv, .tuple #[.agg X, .bool true], .agg X, .bool true, .bool true, .bool false, .bool false, .slice bp bn bc, .int .i64 bn, .bool false, .bool false, .bool false, .int .i64 ct, .bool false, .bool false, .bool false, .int .i64 a3, .int .i64 ct, .int .i64 a4, .bool false, .bool false, undef, undef, undef, undef, undef, undef, undef, undef, undef, undef, undef, undef, undef, undef, undef, undef, undef, undef, undef, undef, undef, undef], []⟩ [.code tailR]
set_option maxRecDepth 100000 in
theorem yes_R (kv nv : Value) (ct : Int) (bp : Option Addr) (bn bc : Nat) (a1 a2 a3 : Int) (a4 : Int) (X : Array Value) (β : Nat) (h1 : ¬ (4000 : Int) < bn) (h2 : ¬ ct < 0) (e4 : IntKind.i64.wrap (4294967296 - ct) = a4) (h3 : ¬ a4 < a3) (cs : List Frame)
    (next : Co Tryd.prog true Sh Stop M (G (goodR kv nv ct bp bn bc a1 a2 a3 a4 X β) cs) w) :
    Co Tryd.prog true Sh Stop M (G (made1R kv nv ct bp bn bc a1 a2 a3 X true β) cs) w := by
  simp only [made1R, goodR, rest2R, tailR, bodyR, Tryd.f26, Option.getD_some] at next ⊢
  iterate 3 (first | with_reducible refine Co.ctlG (fun _ => by first | exact stepG_seq | exact stepG_skip | exact stepG_block | exact stepG_loop | exact stepG_inLoop | exact stepG_inBlock | exact stepG_region_end) ?_ | (with_reducible refine Co.ctlG (fun _ => stepG_region) ?_; (try simp only [List.size_toArray]); (try simp only [List.length_cons]); (try simp only [List.length_nil]); (try simp only [Nat.zero_add]); (try simp only [Nat.reduceAdd]); (try simp only [List.range]); (try simp only [List.range.loop])))
  refine Co.value (v := .bool true) rfl rfl (by decide) (fun _ => by simp [go_sem, execOp, Act.eval]) (fun _ => by simp [go_sem, execOp, Act.eval]) ?_
  walk_nrm
  refine Co.value (v := .bool false) rfl rfl (by decide) (fun _ => by simp [go_sem, execOp, Act.eval]) (fun _ => by simp [go_sem, execOp, Act.eval]) ?_
  walk_nrm
  refine Co.value (v := .bool false) rfl rfl (by decide) (fun _ => by simp [go_sem, execOp, Act.eval]) (fun _ => by simp [go_sem, execOp, Act.eval]) ?_
  walk_nrm
  refine Co.value (v := .slice bp bn bc) rfl rfl (by decide) (fun _ => by simp [go_sem, execOp, Act.eval]) (fun _ => by simp [go_sem, execOp, Act.eval]) ?_
  walk_nrm
  refine Co.value (v := .int .i64 bn) rfl rfl (by decide) (fun _ => by simp [go_sem, execOp, Act.eval]) (fun _ => by simp [go_sem, execOp, Act.eval]) ?_
  walk_nrm
  refine Co.value (v := .bool false) rfl rfl (by decide) (fun _ => by simp [go_sem, execOp, Act.eval, h1]) (fun _ => by simp [go_sem, execOp, Act.eval]) ?_
  walk_nrm
  refine Co.value (v := .bool false) rfl rfl (by decide) (fun _ => by simp [go_sem, execOp, Act.eval]) (fun _ => by simp [go_sem, execOp, Act.eval]) ?_
  walk_nrm
  refine Co.value (v := .bool false) rfl rfl (by decide) (fun _ => by simp [go_sem, execOp, Act.eval]) (fun _ => by simp [go_sem, execOp, Act.eval]) ?_
  walk_nrm
  refine Co.value (v := .int .i64 ct) rfl rfl (by decide) (fun _ => by simp [go_sem, execOp, Act.eval]) (fun _ => by simp [go_sem, execOp, Act.eval]) ?_
  walk_nrm
  refine Co.value (v := .bool false) rfl rfl (by decide) (fun _ => by simp [go_sem, execOp, Act.eval, h2]) (fun _ => by simp [go_sem, execOp, Act.eval]) ?_
  walk_nrm
  refine Co.value (v := .bool false) rfl rfl (by decide) (fun _ => by simp [go_sem, execOp, Act.eval]) (fun _ => by simp [go_sem, execOp, Act.eval]) ?_
  walk_nrm
  refine Co.value (v := .bool false) rfl rfl (by decide) (fun _ => by simp [go_sem, execOp, Act.eval]) (fun _ => by simp [go_sem, execOp, Act.eval]) ?_
  walk_nrm
  refine Co.value (v := .int .i64 a3) rfl rfl (by decide) (fun _ => by simp [go_sem, execOp, Act.eval]) (fun _ => by simp [go_sem, execOp, Act.eval]) ?_
  walk_nrm
  refine Co.value (v := .int .i64 ct) rfl rfl (by decide) (fun _ => by simp [go_sem, execOp, Act.eval]) (fun _ => by simp [go_sem, execOp, Act.eval]) ?_
  walk_nrm
  refine Co.value (v := .int .i64 a4) rfl rfl (by decide) (fun _ => by simp [go_sem, execOp, Act.eval, e4]) (fun _ => by simp [go_sem, execOp, Act.eval]) ?_
  walk_nrm
  refine Co.value (v := .bool false) rfl rfl (by decide) (fun _ => by simp [go_sem, execOp, Act.eval, h3]) (fun _ => by simp [go_sem, execOp, Act.eval]) ?_
  walk_nrm
  refine Co.value (v := .bool false) rfl rfl (by decide) (fun _ => by simp [go_sem, execOp, Act.eval]) (fun _ => by simp [go_sem, execOp, Act.eval]) ?_
  walk_nrm
  (first | with_reducible refine Co.ctlG (fun _ => by first | exact stepG_seq | exact stepG_skip | exact stepG_block | exact stepG_loop | exact stepG_inLoop | exact stepG_inBlock | exact stepG_region_end) ?_ | (with_reducible refine Co.ctlG (fun _ => stepG_region) ?_; (try simp only [List.size_toArray]); (try simp only [List.length_cons]); (try simp only [List.length_nil]); (try simp only [Nat.zero_add]); (try simp only [Nat.reduceAdd]); (try simp only [List.range]); (try simp only [List.range.loop])))
  refine Co.ctlG (fun _ => stepG_cond (t := false) rfl) ?_
  simp only [Bool.false_eq_true, if_false]
  (first | with_reducible refine Co.ctlG (fun _ => by first | exact stepG_seq | exact stepG_skip | exact stepG_block | exact stepG_loop | exact stepG_inLoop | exact stepG_inBlock | exact stepG_region_end) ?_ | (with_reducible refine Co.ctlG (fun _ => stepG_region) ?_; (try simp only [List.size_toArray]); (try simp only [List.length_cons]); (try simp only [List.length_nil]); (try simp only [Nat.zero_add]); (try simp only [Nat.reduceAdd]); (try simp only [List.range]); (try simp only [List.range.loop])))
  exact next
end

end Go.Proofs.YthjapmdikbmmkaaDoor
