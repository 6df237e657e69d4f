/-
  What the specification's Stream answers: the bytes of the text, one or the other, not both, with the bytes of the blocks one behind the other; or nothing. Condition: bytes all.
  A run beside others, carried over from a run alone, up to the numbers of blocks. HERE: words for the steps of a goroutine's own: steps that leave the world as it is (also a walk of the kit's, 'Goes'), a step that makes a block, a step into a call that is carried over.
  The functions that a stream's two goroutines run are of the kinds of operations that are carried over.
  sendBlocks beside the receiver: its own steps, from its birth to the loop's head.
  One's own operations beside others: whatever kind of operation is carried over touches what is one's own alone, also in the true world: what it lists need not be reckoned.
  sendBlocks beside the receiver: from the loop's head to the call of block.
  sendBlocks beside the receiver: the send; from behind it to the loop's head; from the head to the close; the leaving.
  sendBlocks beside the receiver: the world alone in which block is called; bytes carried over.
  sendBlocks beside the receiver: whole, on what block answers alone.
-/
import Derived.Test.YtepbidaoloplbaaDoorParb17
import Derived.Test.YtepbidaoloplbaaDoorParb11
import Derived.Test.YtepbidaoloplbaaDoorParb12
import Derived.Test.YtepbidaoloplbaaDoorParb15
import Derived.Test.YtepbidaoloplbaaDoorParb14
import Derived.Test.YtepbidaoloplbaaDoorParb16
import Derived.Test.YtepbidaoloplbaaDoorParb07
import Derived.Conc.Walk
import Derived.Test.YtepbidaoloplbaaDoorParb05
import Derived.Test.YtepbidaoloplbaaDoorChecked
import Derived.Conc.DeferLaws
import Derived.Conc.Own5
import Derived.Conc.WalkWords
import Derived.KernelRfl
namespace Go.Proofs.YtepbidaoloplbaaDoor.Alt
open Go.RowKit
set_option maxRecDepth 100000

theorem slice_on (b j m cc l : Nat) (h : l < m) (hc : m ≤ cc) (W : World) : (Instr.slice 22 (.slice (some ⟨b, j, none⟩) m cc) (some (.int .i64 (l : Int))) none none).run Altd.prog W = .ok (.slice (some ⟨b, j + l, none⟩) (m - l) (cc - l)) W := by
  have ht' : Altd.prog.underlying 22 = some (.slice (Altd.prog.elem 22)) := by simp [-Altd.underlyingG, Program.elem, Altd.underlying22]
  have he : Altd.prog.elem 22 = 5 := by simp [-Altd.underlyingG, Program.elem, Altd.underlying22]
  obtain ⟨i0, hi, hz0, hz1, hz2⟩ := info_parts infoByte
  rw [run_slice_l W 22 _ _ _ ht' .i64 l (by omega) (by omega), he]
  simp [-Altd.tables, sizeOf, typeInfo, hi, hz1, sliced, Addr.add, show cc ≠ l by omega]

set_option maxHeartbeats 1000000 in
theorem specStr_small (p q r : Option Addr) (n m k c d f : Nat) (count : Int) (ks ns bs : List Int) (w : World) (hk : k ≤ 4000) (hf : k ≤ f) (hx : ks.length = n) (hy : ns.length = m) (hz : bs.length = k) (h : BytesIn w p n ks) (h' : BytesIn w q m ns) (h'' : BytesIn w r k bs) (hb1 : ∀ x ∈ ks, 0 ≤ x ∧ x < 256) (hb2 : ∀ x ∈ ns, 0 ≤ x ∧ x < 256) :
    Calls Altd.prog 12 #[.slice p n c, .int .i64 count, .slice q m d, .slice r k f] w fun e w' => ∃ p' L c', e = .returned (.slice p' L c') ∧ Own 5 w' w.heap.size w'.heap.size (.slice p' L c') L (strS ks count ns bs) ∧ Below w.heap.size w w' := by
  obtain ⟨i0, hi, hz0, hz1, hz2⟩ := info_parts infoByte
  have d1 : ¬ (4000 : Int) < (k : Int) := by omega
  have hown0 : (w.alloc (.cells #[] 5)).ownsRow w.heap.size 5 1 (.slice (some ⟨w.heap.size, 0, none⟩) 0 0) 0 ((outS ks count ns bs 0).map (Value.int .u8)) := World.ownsRow_made w #[] 0 (Nat.le_refl _) (by unfold maxLen; omega) rfl
  have hb0 : Below w.heap.size w (w.alloc (.cells #[] 5)) := (Below.refl _ _).alloc (Nat.le_refl _) _
  go_enter Altd.func12, Altd.ntmps12
  go_wp2_with (fail)
  generalize w.alloc (.cells #[] 5) = w2 at hown0 hb0 ⊢
  go_loopw [9, 10, 1, 11] (fun v at_ cn _ wr => ∃ (i a L : Nat) (cc : Int), Hid (a = 64 * i) ∧ Hid (cc = count + (i : Int)) ∧ a < k + 64 ∧ at_ = .int .i64 a ∧ cn = .int .i64 cc ∧ wr.ownsRow w.heap.size 5 1 v L ((outS ks count ns bs i).map (Value.int .u8)) ∧ Hid (∀ i' : Nat, i' < i → blkOk n m (count + (i' : Int))) ∧ Below w.heap.size w wr)
    (fun _ at_ _ _ _ => match at_ with | .int _ z => k + 64 - z.toNat | _ => 0)
  case atStart => exact ⟨0, 0, 0, count, rfl, by rw [Hid]; simp, by omega, rfl, rfl, hown0, fun i' h => absurd h (Nat.not_lt_zero _), hb0⟩
  case round =>
    clear hown0 hb0
    obtain ⟨i, a, L, cc, ha, hcc, hak, rfl, rfl, hown, hoks, hbl⟩ := hrel
    have hszr := hbl.size
    obtain ⟨pv, cv, hv⟩ := owns_form hown
    subst hv
    by_cases hlt : a < k
    · obtain ⟨b2, o2, rfl, hcell⟩ := h'' (by omega)
      by_cases hok : blkOk n m cc
      · have CB := specBlk_any p q n m c d cc ks ns wr hx hy (in_below h hbl) (in_below h' hbl) hb1 hb2
        rw [blkN, if_pos hok, blkL, hx, hy, if_pos hok] at CB
        have hsl := slice_on b2 o2 k f a hlt hf
        have hc0 := hok.2.2.1
        have hc1 := hok.2.2.2
        have hlB := blkB_length ks cc ns
        have HX : Hid (∀ W, Below w.heap.size w W → BytesIn W (some ⟨b2, o2 + a, none⟩) (k - a) (bs.drop a)) := fun W hW _ => ⟨b2, o2 + a, rfl, fun j hj => by
          have := hcell (a + j) (by omega)
          rw [Nat.add_assoc, hW.cell (p := ⟨b2, o2 + (a + j), none⟩) (World.block_lt_of_cell? w ⟨b2, o2 + (a + j), none⟩ this), this]
          simp [List.getD]⟩
        have HO : Hid (outS ks count ns bs i ++ xorL (blkB ks cc ns) (bs.drop a) = outS ks count ns bs (i + 1)) := by rw [Hid, outS, ha.out, hcc.out]
        have hld : (bs.drop a).length = k - a := by rw [List.length_drop, hz]
        generalize blkB ks cc ns = B at CB hlB HO
        generalize bs.drop a = D at HX HO hld
        clear hcell
        go_wp2_with (fail)
        refine CB.mono ?_
        rintro e w6 ⟨p6, c6, rfl, r6, b6⟩
        clear CB
        go_wp2_with (fail)
        have bel6 : Below w.heap.size w w6 := below_on hbl b6
        refine (specXor_own p6 _ 64 (k - a) c6 (f - a) B D w6 (by omega) (by omega) hlB hld r6.bytes (HX.out w6 bel6)).mono ?_
        rintro e w7 ⟨p7, c7, rfl, r7, b7⟩
        have bel7 := below_on bel6 b7
        have hown7 := owns_below (owns_below hown b6) b7
        have hin7 := r7.bytes
        have l7 : (xorL B D).length = min 64 (k - a) := by rw [xorL_length, hlB, hld]
        have hs7 := bel7.size
        have hL : L ≤ 1048576 := by
          have h1 := owns_len hown7
          rw [outS_length, hz] at h1
          omega
        have hmin : 0 < min 64 (k - a) := by omega
        have hmax : min 64 (k - a) ≤ 64 := by omega
        have HA : Hid (a + 64 = 64 * (i + 1)) := by rw [Hid, ha.out]; omega
        have HC : Hid (cc + 1 = count + ((i + 1 : Nat) : Int)) := by rw [Hid, hcc.out]; omega
        have HK : Hid (∀ i' : Nat, i' < i + 1 → blkOk n m (count + (i' : Int))) := fun i' hi' => by
          rcases Nat.lt_or_ge i' i with h1 | h1
          · exact hoks.out i' h1
          · obtain rfl : i' = i := by omega
            rw [← hcc.out]
            exact hok
        clear hown r6 r7 b6 b7 HX hoks ha hcc hld hlB hsl bel6 hbl
        generalize min 64 (k - a) = mm at hin7 l7 hmin hmax ⊢
        go_wp2_with (at_builtin; refine list_spread hi hz0 hz1 hz2 (.tmp 31) (.tmp 36) 22 Altd.underlying22 hown7 hin7 l7 hmin (by omega) (by omega) hs7 (by rfl) (by rfl) (by rfl) (by rfl) ?_; intro g8 cap8 w8 ho8 hg8 hb8; rw [HO.out] at ho8)
        go_roundw
        case rel => exact ⟨i + 1, a + 64, L + mm, cc + 1, HA, HC, by omega, by go_num, by go_num, ho8, HK, bel7.trans hb8⟩
        case measure => simp only; omega
      · have CB := specBlk_any p q n m c d cc ks ns wr hx hy (in_below h hbl) (in_below h' hbl) hb1 hb2
        rw [blkN, if_neg hok, blkL, hx, hy, if_neg hok] at CB
        have hno : strS ks count ns bs = [] := if_neg fun hS => hok (by
          have := hS.2 i (by rw [hz, ← ha.out]; exact hlt)
          rw [hx, hy, ← hcc.out] at this
          exact this)
        clear hcell
        go_wp2_with (fail)
        refine CB.mono ?_
        rintro e w6 ⟨p6, c6, rfl, r6, b6⟩
        have bel6 : Below w.heap.size w w6 := below_on hbl b6
        have hs6 := bel6.size
        have ho6 : (w6.alloc (.cells #[] 5)).ownsRow w.heap.size 5 1 (.slice (some ⟨w6.heap.size, 0, none⟩) 0 0) 0 (([] : List Int).map (Value.int .u8)) := World.ownsRow_made w6 #[] 0 hs6 (by unfold maxLen; omega) rfl
        clear CB
        go_wp2_with (fail)
        go_ret
        rw [hno]
        exact ⟨_, _, _, rfl, .of ho6, bel6.alloc hs6 _⟩
    · have hyes : strS ks count ns bs = outS ks count ns bs i := by
        have e1 : (bs.length + 63) / 64 = i := by
          have := ha.out
          rw [hz]
          omega
        have hS : strOk ks.length ns.length bs.length count := ⟨by rw [hz]; exact hk, fun i' hi' => by rw [hx, hy]; exact hoks.out i' (by have := ha.out; rw [hz] at hi'; omega)⟩
        rw [strS, if_pos hS, e1]
      have hnl : ¬ (a : Int) < (k : Int) := by omega
      go_wp2_with (fail)
      go_ret
      exact ⟨_, _, _, rfl, .of hown, hbl⟩

theorem specStr_any (p q r : Option Addr) (n m k c d f : Nat) (count : Int) (ks ns bs : List Int) (w : World) (hf : k ≤ f) (hx : ks.length = n) (hy : ns.length = m) (hz : bs.length = k) (h : BytesIn w p n ks) (h' : BytesIn w q m ns) (h'' : BytesIn w r k bs) (hb1 : ∀ x ∈ ks, 0 ≤ x ∧ x < 256) (hb2 : ∀ x ∈ ns, 0 ≤ x ∧ x < 256) :
    Calls Altd.prog 12 #[.slice p n c, .int .i64 count, .slice q m d, .slice r k f] w fun e w' => ∃ p' L c', e = .returned (.slice p' L c') ∧ Own 5 w' w.heap.size w'.heap.size (.slice p' L c') L (strS ks count ns bs) ∧ Below w.heap.size w w' := by
  by_cases hk : k ≤ 4000
  · exact specStr_small p q r n m k c d f count ks ns bs w hk hf hx hy hz h h' h'' hb1 hb2
  · have hno : Hid (strS ks count ns bs = []) := if_neg fun hS => hk (by have := hS.1; omega)
    have d1 : (4000 : Int) < (k : Int) := by omega
    have hown0 : (w.alloc (.cells #[] 5)).ownsRow w.heap.size 5 1 (.slice (some ⟨w.heap.size, 0, none⟩) 0 0) 0 (([] : List Int).map (Value.int .u8)) := World.ownsRow_made w #[] 0 (Nat.le_refl _) (by unfold maxLen; omega) rfl
    have hb0 : Below w.heap.size w (w.alloc (.cells #[] 5)) := (Below.refl _ _).alloc (Nat.le_refl _) _
    go_enter Altd.func12, Altd.ntmps12
    go_wp2_with (fail)
    go_ret
    rw [hno.out]
    exact ⟨_, _, _, rfl, .of hown0, hb0⟩

end Go.Proofs.YtepbidaoloplbaaDoor.Alt

namespace Go.Proofs.YtepbidaoloplbaaDoor
open Go Go.Conc

section
variable {P : Program} {main : Bool} {Sh : Nat → Prop} {Stop : (Nat → Prop) → Goroutine → World → Prop} {M : Nat → Prop} {g g' : Goroutine} {w w' : World}
theorem grown_self (h : w'.heap.size = w.heap.size) : grown M w w' = M := funext fun b => propext ⟨fun x => x.elim id fun y => by omega, .inl⟩
theorem Guar.quiet {es : Array Event} (h : ∀ e ∈ es, EvM Sh M e) : Guar Sh M w w es :=
  ⟨Nat.le_refl _, fun _ _ _ => rfl, fun _ _ _ => rfl, rfl, rfl, rfl, fun e he => by rw [grown_self rfl]; exact h e he⟩
/-- A step that leaves the world as it is. -/
theorem Co.quiet (hr : g.status = .running) (hs : ∀ w1, Keeps M w w1 → ∃ es, stepG P main g w1 = .go g' w1 es ∧ ∀ e ∈ es, EvM Sh M e) (h : Co P main Sh Stop M g' w) : Co P main Sh Stop M g w := by
  refine .step hr (fun w1 hk => ?_) fun w1 hk g'' w2 es he => ?_
  · obtain ⟨es, h1, h2⟩ := hs w1 hk
    exact ⟨g', w1, es, h1, .quiet h2⟩
  · obtain ⟨es', h1, _⟩ := hs w1 hk
    rw [he] at h1
    cases h1
    rw [grown_self rfl]
    exact h.keeps hk
/-- A move of control. -/
theorem Co.ctl (hr : g.status = .running) (hs : ∀ w1, stepG P main g w1 = .go g' w1 #[]) (h : Co P main Sh Stop M g' w) : Co P main Sh Stop M g w :=
  .quiet hr (fun w1 _ => ⟨#[], hs w1, by simp⟩) h
/-- What a step of such a walk may do. -/
def DQ (Sh M : Nat → Prop) (w w' : World) (es : Array Event) : Prop := w' = w ∧ ∀ e ∈ es, EvM Sh M e
theorem DQ.none (Sh M : Nat → Prop) (w : World) : DQ Sh M w w #[] := ⟨rfl, by simp⟩
/-- A step that makes one block. -/
theorem Co.alloc {o : Obj} {g' : Nat → Goroutine} (hr : g.status = .running) (hs : ∀ w1, Keeps M w w1 → ∃ es, stepG P main g w1 = .go (g' w1.heap.size) { w1 with heap := w1.heap.push o } es ∧ ∀ e ∈ es, EvM Sh (fun b => M b ∨ b = w1.heap.size) e) (hM : ∀ b, M b → b < w.heap.size)
    (h : ∀ w1, Keeps M w w1 → Co P main Sh Stop (fun b => M b ∨ b = w1.heap.size) (g' w1.heap.size) { w1 with heap := w1.heap.push o }) : Co P main Sh Stop M g w := by
  have hg : ∀ w1 : World, grown M w1 { w1 with heap := w1.heap.push o } = fun b => M b ∨ b = w1.heap.size := fun w1 => funext fun b => propext ⟨fun x => x.imp id fun y => by have h1 := y.1; have h2 := y.2; simp at h2; omega, fun x => x.imp id fun y => by subst y; simp⟩
  refine .step hr (fun w1 hk => ?_) fun w1 hk g'' w2 es he => ?_
  · obtain ⟨es, h1, h2⟩ := hs w1 hk
    have hp : ∀ b, b < w1.heap.size → (w1.heap.push o)[b]? = w1.heap[b]? := fun b hb => by rw [Array.getElem?_push_lt hb, Array.getElem?_eq_getElem hb]
    exact ⟨_, _, es, h1, by simp, fun b hb _ => hp b hb, fun b _ hm => hp b (Nat.lt_of_lt_of_le (hM b hm) hk.size), rfl, rfl, rfl, fun e hee => by rw [hg]; exact h2 e hee⟩
  · obtain ⟨es', h1, _⟩ := hs w1 hk
    rw [he] at h1
    cases h1
    rw [hg]
    exact h w1 hk
end

section
variable {P : Program} {Gl : Globs} {Al : Nat → Bool} {Sh : Nat → Prop} {main : Bool}
/-- A call that is carried over, with blocks beside that it does not touch: behind it, what comes next. -/
theorem co_call_in (T : TameP P Gl Al) {Tr : Nat → Prop} {Post : Value → World → Prop} {ρ : Ren} {f : FuncId} {args args' : Array Value} {wg w : World} {M R : Nat → Prop} {c : Frame} {cs : List Frame} {Stop : (Nat → Prop) → Goroutine → World → Prop} (hT0 : ∀ b b', ρ b b' → Tr b' → Sh b) (hTr : ∀ b', Tr b' → b' < w.heap.size) (hf : Al f = true)
    (hC : ∀ τ, Calls P f args (World.ret wg τ) fun e w1 => ∃ v, e = .returned v ∧ Post v w1) (hs : Sit 0 P Gl Al Sh ρ wg w) (hargs : RelR ρ args args') (hM : ∀ b', M b' ↔ (∃ b, ρ b b') ∨ R b') (hR : ∀ b, R b → b < w.heap.size ∧ ¬ ∃ c, ρ c b)
    (next : ∀ (ρ1 : Ren) (v v' : Value) (w1g w1 : World) (M' : Nat → Prop), RelV ρ1 v v' → Post v w1g → RelW 0 Sh ρ1 w1g w1 → ρ.le ρ1 → (∀ b b', ρ1 b b' → ρ b b' ∨ (wg.heap.size ≤ b ∧ w.heap.size ≤ b')) → (∀ b', M' b' ↔ (∃ b, ρ1 b b') ∨ R b') → Keeps R w w1 → Co P main Tr Stop M' (G (c.finish v') cs) w1) :
    Co P main Tr Stop M (G (Frame.enter P f args' .normal) (c :: cs)) w := by
  have h1 := co_call (main := main) (c := c) (cs := cs) T hT0 hTr hf hC hs hargs (M := fun b' => ∃ b, ρ b b') fun _ => .rfl
  refine (h1.frame (R := R) (w0 := w) hM (fun b hb => (hR b hb).1) (fun b hb => (hR b hb).2) (.refl _ _)).bind fun M' g1 w1 ⟨M1, ⟨ρ1, v, v', w1g, e1, e2, e3, e4, e5, e6, e7⟩, h3, h4⟩ => ?_
  subst e1
  exact next ρ1 v v' w1g w1 M' e2 e3 e4 e6 e7 (fun b' => by rw [h3 b', e5 b']) h4
end

end Go.Proofs.YtepbidaoloplbaaDoor

namespace Go.Proofs.YtepbidaoloplbaaDoor
open Go Go.Conc

def glS : Globs := ⟨fun g => g == 0, fun _ _ => false⟩
def alS (f : Nat) : Bool := [32, 43, 54, 60, 51, 57, 58, 61, 59, 31].contains f
theorem tame_one {P : Program} {Gl : Globs} {Al : Nat → Bool} {f : Nat} {fn : Func} (h : P.funcs[f]? = some fn) (hc : (match fn.body with | some b => okCode P Gl Al b | none => false) = true) (hn : (fn.name == "runtime.NumGoroutine") = false) : ∃ fn body, P.funcs[f]? = some fn ∧ (fn.name == "runtime.NumGoroutine") = false ∧ fn.body = some body ∧ okCode P Gl Al body = true := by
  cases hb : fn.body with
  | none => rw [hb] at hc; cases hc
  | some b => rw [hb] at hc; exact ⟨fn, b, h, hn, hb, hc⟩
theorem tameS : TameP Tryd.prog glS alS := by
  refine ⟨fun f hf => ?_, fun _ _ => rfl⟩
  simp only [alS, List.contains_cons, List.contains_nil, Bool.or_false, Bool.or_eq_true, beq_iff_eq] at hf
  rcases hf with rfl | rfl | rfl | rfl | rfl | rfl | rfl | rfl | rfl | rfl
  · exact tame_one Tryd.func32 (by kernel_rfl) (by kernel_rfl)
  · exact tame_one Tryd.func43 (by kernel_rfl) (by kernel_rfl)
  · exact tame_one Tryd.func54 (by kernel_rfl) (by kernel_rfl)
  · exact tame_one Tryd.func60 (by kernel_rfl) (by kernel_rfl)
  · exact tame_one Tryd.func51 (by kernel_rfl) (by kernel_rfl)
  · exact tame_one Tryd.func57 (by kernel_rfl) (by kernel_rfl)
  · exact tame_one Tryd.func58 (by kernel_rfl) (by kernel_rfl)
  · exact tame_one Tryd.func61 (by kernel_rfl) (by kernel_rfl)
  · exact tame_one Tryd.func59 (by kernel_rfl) (by kernel_rfl)
  · exact tame_one Tryd.func31 (by kernel_rfl) (by kernel_rfl)

end Go.Proofs.YtepbidaoloplbaaDoor

namespace Go.Proofs.YtepbidaoloplbaaDoor
open Go Go.Conc

def bK : Frame := { (default : Frame) with fn := 30, kind := .deferred }
noncomputable def bodyK : Code := Tryd.f30.body.getD .skip
noncomputable def LK : Code := match bodyK with | .seq _ (.seq _ (.seq _ (.block _ (.loop c)))) => c | _ => .skip
noncomputable def botK : Frame := { (default : Frame) with fn := Tryd.prog.funcs.size, defers := [], mode := .panicking [goexitEntry] }
/-- The deferred close. -/
def closeK (ch : Nat) : Deferred := { target := .builtin .close #[68] 0 #[false], args := #[.chan (some ch)] }

/-- The call that the go statement holds. -/
def callK (X : Array Value) (ch : Nat) (c m : Int) : Deferred := { target := .fn (.func 30) #[], args := #[.agg X, .chan (some ch), .int .i64 c, .int .i64 m] }
theorem born_K (X : Array Value) (ch : Nat) (c m : Int) (w : World) : stepG Tryd.prog false (born Tryd.prog (callK X ch c m)) w =
    .go (G (bK.at ⟨#[.agg X, .chan (some ch), .int .i64 c, .int .i64 m, undef, undef, undef, undef, undef, undef, undef, undef, undef, undef, undef, undef, undef, undef, undef, undef, undef], []⟩ [.code bodyK]) [botK]) w #[] := by
  simp [born, callK, stepG, unwind, callDeferred, invoke, callFunc, Tryd.func30, Tryd.f30, seen, GStep.after, G, Frame.enter, Frame.at, bK, botK, bodyK]

section
variable {Sh : Nat → Prop} {Stop : (Nat → Prop) → Goroutine → World → Prop} {M : Nat → Prop} {w : World}
theorem Co.ctlG {P : Program} {main : Bool} {fr : Frame} {cs : List Frame} {g' : Goroutine} (hs : ∀ w1, stepG P main (G fr cs) w1 = .go g' w1 #[]) (h : Co P main Sh Stop M g' w) : Co P main Sh Stop M (G fr cs) w := .ctl rfl hs h
/-- An operation that looks at slots alone. -/
theorem Co.value {P : Program} {main : Bool} {b : Frame} {a : Act} {k : List Item} {cs : List Frame} {ops : Array Oper} {i : Nat} {rest : List Nat} {o : Oper} {v : Value} (ho : ops[i]? = some o) (hw : Region.wanted o (yielded ops a.tmps) = true) (hk : b.kind ≠ .early)
    (hr : ∀ w, (execOp a.eval o).run P w = .ok (.value v) w) (he : ∀ w, (execOp a.eval o).events P w #[] = #[]) (h : Co P main Sh Stop M (G (b.at (a.put o.dst v) (.inRegion ops rest :: k)) cs) w) : Co P main Sh Stop M (G (b.at a (.inRegion ops (i :: rest) :: k)) cs) w :=
  .ctl rfl (fun w1 => by rw [stepG_value ho hw hk (hr w1)]; unfold listed; rw [he w1, seen_none]) h
/-- A variable's block is made. -/
theorem Co.box {P : Program} {main : Bool} {b : Frame} {a : Act} {k : List Item} {cs : List Frame} {ops : Array Oper} {i : Nat} {rest : List Nat} {o : Oper} {e : TypeId} {x : Operand} {X : Array Value} (ho : ops[i]? = some o) (hw : Region.wanted o (yielded ops a.tmps) = true) (hk : b.kind ≠ .early) (hop : o.op = .box e x) (hx : a.eval x = .agg X) (hM : ∀ b, M b → b < w.heap.size)
    (next : ∀ w1, Keeps M w w1 → Co P main Sh Stop (fun b => M b ∨ b = w1.heap.size) (G (b.at (a.put o.dst (.pointer (some ⟨w1.heap.size, 0, none⟩))) (.inRegion ops rest :: k)) cs) { w1 with heap := w1.heap.push (.cells X e) }) : Co P main Sh Stop M (G (b.at a (.inRegion ops (i :: rest) :: k)) cs) w := by
  have hr : ∀ w1, (execOp a.eval o).run P w1 = .ok (.value (.pointer (some ⟨w1.heap.size, 0, none⟩))) { w1 with heap := w1.heap.push (.cells X e) } := fun w1 => by
    unfold execOp
    rw [hop]
    simp [Instr.box, newVar, newRow, hx, Value.cells]
  have he : ∀ w1, (execOp a.eval o).events P w1 #[] = #[] := fun w1 => by
    unfold execOp
    rw [hop]
    simp [Instr.box, newVar, newRow]
  exact Co.alloc (g' := fun n => G (b.at (a.put o.dst (.pointer (some ⟨n, 0, none⟩))) (.inRegion ops rest :: k)) cs) rfl (fun w1 _ => ⟨#[], by rw [stepG_value ho hw hk (hr w1)]; unfold listed; rw [he w1, seen_none], by simp⟩) hM next
/-- A call is put off. -/
theorem Co.defer {P : Program} {main : Bool} {b : Frame} {a : Act} {k : List Item} {cs : List Frame} {ops : Array Oper} {i : Nat} {rest : List Nat} {o : Oper} {d : Deferred} (ho : ops[i]? = some o) (hw : Region.wanted o (yielded ops a.tmps) = true) (hk : b.kind ≠ .early)
    (hr : ∀ w, (execOp a.eval o).run P w = .ok (.defer d) w) (he : ∀ w, (execOp a.eval o).events P w #[] = #[]) (h : Co P main Sh Stop M (G (b.at (Act.put ⟨a.tmps, d :: a.defers⟩ o.dst undef) (.inRegion ops rest :: k)) cs) w) : Co P main Sh Stop M (G (b.at a (.inRegion ops (i :: rest) :: k)) cs) w := by
  refine .ctl rfl (fun w1 => ?_) h
  have hfin : (b.at ⟨a.tmps, d :: a.defers⟩ (.inRegion ops (i :: rest) :: k)).finish undef = b.at (Act.put ⟨a.tmps, d :: a.defers⟩ o.dst undef) (.inRegion ops rest :: k) := by rw [Frame.finish_at, ho]; rfl
  have hk' : (b.kind == CallKind.early) = false := by simpa using hk
  rw [stepG_oper ho hw, ← hfin]
  simp [stepG.apply, hr, he, G, Frame.at, hk', GStep.after, seen_none]
/-- The loop's head. -/
noncomputable def headK (X : Array Value) (ch : Nat) (c m : Int) (β : Nat) (i : Int) (u5 u6 u7 u8 u9 u12 u13 u14 u15 u16 u17 u18 u19 u20 : Value) : Goroutine :=
  G (bK.at ⟨#[.agg X, .chan (some ch), .int .i64 c, .int .i64 m, .pointer (some ⟨β, 0, none⟩), u5, u6, u7, u8, u9, .int .i64 m, .int .i64 i, u12, u13, u14, u15, u16, u17, u18, u19, u20], [closeK ch]⟩ [.code LK, .inLoop LK, .inBlock 0]) [botK]
set_option maxRecDepth 100000 in
theorem entry_K (X : Array Value) (ch : Nat) (c m : Int) (hM : ∀ b, M b → b < w.heap.size)
    (next : ∀ w1, Keeps M w w1 → ∀ u5 u6 u7 u8 u9 u12 u13 u14 u15 u16 u17 u18 u19 u20, Co Tryd.prog false Sh Stop (fun b => M b ∨ b = w1.heap.size) (headK X ch c m w1.heap.size 0 u5 u6 u7 u8 u9 u12 u13 u14 u15 u16 u17 u18 u19 u20) { w1 with heap := w1.heap.push (.cells X 48) }) :
    Co Tryd.prog false Sh Stop M (born Tryd.prog (callK X ch c m)) w := by
  refine Co.ctl rfl (fun w1 => born_K X ch c m w1) ?_
  simp only [headK, LK, bodyK, Tryd.f30, Option.getD_some] at next ⊢
  repeat (first | with_reducible refine Co.ctlG (fun _ => stepG_seq) ?_ | with_reducible refine Co.ctlG (fun _ => stepG_skip) ?_ | with_reducible refine Co.ctlG (fun _ => stepG_block) ?_ | with_reducible refine Co.ctlG (fun _ => stepG_loop) ?_ | with_reducible refine Co.ctlG (fun _ => stepG_inLoop) ?_ | with_reducible refine Co.ctlG (fun _ => stepG_inBlock) ?_ | with_reducible refine Co.ctlG (fun _ => stepG_region_end) ?_ | (with_reducible refine Co.ctlG (fun _ => stepG_region) ?_; (try simp only [List.size_toArray]); (try simp only [List.length_cons]); (try simp only [List.length_nil]); (try simp only [Nat.zero_add]); (try simp only [Nat.reduceAdd]); (try simp only [List.range]); (try simp only [List.range.loop])))
  refine Co.box rfl rfl (by decide) rfl rfl hM fun w1 hk => ?_
  walk_nrm
  repeat (first | (first | with_reducible refine Co.ctlG (fun _ => stepG_seq) ?_ | with_reducible refine Co.ctlG (fun _ => stepG_skip) ?_ | with_reducible refine Co.ctlG (fun _ => stepG_block) ?_ | with_reducible refine Co.ctlG (fun _ => stepG_loop) ?_ | with_reducible refine Co.ctlG (fun _ => stepG_inLoop) ?_ | with_reducible refine Co.ctlG (fun _ => stepG_inBlock) ?_ | with_reducible refine Co.ctlG (fun _ => stepG_region_end) ?_ | (with_reducible refine Co.ctlG (fun _ => stepG_region) ?_; (try simp only [List.size_toArray]); (try simp only [List.length_cons]); (try simp only [List.length_nil]); (try simp only [Nat.zero_add]); (try simp only [Nat.reduceAdd]); (try simp only [List.range]); (try simp only [List.range.loop]))) | (refine Co.value rfl rfl (by decide) (fun _ => by simp [execOp, Act.eval]; rfl) (fun _ => by simp [execOp, Act.eval]) ?_; walk_nrm))
  refine Co.defer (d := closeK ch) rfl rfl (by decide) (fun _ => by simp [execOp, resolve, Act.eval, closeK]) (fun _ => by simp [execOp, resolve, Act.eval]) ?_
  walk_nrm
  iterate 3 (first | with_reducible refine Co.ctlG (fun _ => stepG_seq) ?_ | with_reducible refine Co.ctlG (fun _ => stepG_skip) ?_ | with_reducible refine Co.ctlG (fun _ => stepG_block) ?_ | with_reducible refine Co.ctlG (fun _ => stepG_loop) ?_ | with_reducible refine Co.ctlG (fun _ => stepG_inLoop) ?_ | with_reducible refine Co.ctlG (fun _ => stepG_inBlock) ?_ | with_reducible refine Co.ctlG (fun _ => stepG_region_end) ?_ | (with_reducible refine Co.ctlG (fun _ => stepG_region) ?_; (try simp only [List.size_toArray]); (try simp only [List.length_cons]); (try simp only [List.length_nil]); (try simp only [Nat.zero_add]); (try simp only [Nat.reduceAdd]); (try simp only [List.range]); (try simp only [List.range.loop])))
  iterate 2 (refine Co.value rfl rfl (by decide) (fun _ => by simp [execOp, Act.eval]; rfl) (fun _ => by simp [execOp, Act.eval]) ?_; walk_nrm)
  iterate 3 (first | with_reducible refine Co.ctlG (fun _ => stepG_seq) ?_ | with_reducible refine Co.ctlG (fun _ => stepG_skip) ?_ | with_reducible refine Co.ctlG (fun _ => stepG_block) ?_ | with_reducible refine Co.ctlG (fun _ => stepG_loop) ?_ | with_reducible refine Co.ctlG (fun _ => stepG_inLoop) ?_ | with_reducible refine Co.ctlG (fun _ => stepG_inBlock) ?_ | with_reducible refine Co.ctlG (fun _ => stepG_region_end) ?_ | (with_reducible refine Co.ctlG (fun _ => stepG_region) ?_; (try simp only [List.size_toArray]); (try simp only [List.length_cons]); (try simp only [List.length_nil]); (try simp only [Nat.zero_add]); (try simp only [Nat.reduceAdd]); (try simp only [List.range]); (try simp only [List.range.loop])))
  exact next w1 hk ..
end

end Go.Proofs.YtepbidaoloplbaaDoor

namespace Go.Proofs.YtepbidaoloplbaaDoor
open Go Go.Conc

/-- Each block of M by itself. -/
def idr (M : Nat → Prop) (n : Nat) (A : Nat → Prop) : Ren := ⟨fun b b' => b = b' ∧ M b, n, A, fun _ => 0, fun _ _ => rfl, 0, fun _ _ => False⟩
/-- What is mine holds numbers, and pointers to what is mine. -/
structure Mine (Sh M : Nat → Prop) (n : Nat) (A : Nat → Prop) (w : World) : Prop where
  obj : ∀ b, M b → ∃ o, w.heap[b]? = some o ∧ RelO (idr M n A) 0 o o
  shared : ∀ b, Sh b → M b → ∃ c e hi, w.heap[b]? = some (.cells c e (0, hi)) ∧ c.size ≤ hi
  sh : ∀ b, Sh b → b < w.heap.size
  big : n ≤ w.heap.size
theorem Mine.rel {Sh M : Nat → Prop} {n : Nat} {A : Nat → Prop} {w : World} (h : Mine Sh M n A w) (L : Nat) : RelW L Sh (idr M n A) w w := by
  refine ⟨fun b b' hb => ?_, fun b b' c' h1 h2 => h1.1.symm.trans h2.1, fun b c b' h1 h2 => .inl (h1.1.trans h2.1.symm), fun _ _ => rfl, fun _ _ _ => rfl, fun b b' hs hb => h.shared b hs hb.2⟩
  obtain ⟨rfl, hm⟩ := hb
  obtain ⟨o, h1, h2⟩ := h.obj b hm
  exact ⟨o, o, h1, h1, h2⟩
section
variable {P : Program} {main : Bool} {Sh : Nat → Prop} {Stop : (Nat → Prop) → Goroutine → World → Prop} {M N : Nat → Prop} {w : World} {n : Nat} {A : Nat → Prop}
/-- An operation that hands back a value and leaves the world as it is. -/
theorem Co.looks {b : Frame} {a : Act} {k : List Item} {cs : List Frame} {ops : Array Oper} {i : Nat} {rest : List Nat} {o : Oper} {v : Value} (ho : ops[i]? = some o) (hw : Region.wanted o (yielded ops a.tmps) = true) (hk : b.kind ≠ .early)
    (hN : ∀ b, N b → M b) (sim : SimS P P RelN (idr N n A) (execOp a.eval o) (execOp a.eval o)) (hm : ∀ w1, Keeps M w w1 → Mine Sh N n A w1) (hr : ∀ w1, Keeps M w w1 → (execOp a.eval o).run P w1 = .ok (.value v) w1)
    (h : Co P main Sh Stop M (G (b.at (a.put o.dst v) (.inRegion ops rest :: k)) cs) w) : Co P main Sh Stop M (G (b.at a (.inRegion ops (i :: rest) :: k)) cs) w := by
  refine .quiet rfl (fun w1 hk1 => ⟨_, stepG_value ho hw hk (hr w1 hk1), fun e he => ?_⟩) h
  have M1 := hm w1 hk1
  cases hrt : (execOp a.eval o).runT P w1 #[] with
  | mk r es0 =>
    have hr1 : r = .ok (.value v) w1 := by rw [← hr w1 hk1, ← Sem.runT_fst P _ w1 #[], hrt]
    subst hr1
    obtain ⟨ρ1, v', w1', more, r1, _, r3, r4, r5⟩ := sim.runs #[] (M1.rel w1.drawn) M1.sh M1.big hrt (Nat.le_refl _)
    rw [hrt] at r1
    simp only [Prod.mk.injEq, Result.ok.injEq, Array.empty_append] at r1
    obtain ⟨⟨_, rfl⟩, rfl⟩ := r1
    have he' : e ∈ es0 := by
      have := seen_sub _ _ he
      have hev : (execOp a.eval o).events P w1 #[] = es0 := by
        show ((execOp a.eval o).runT P w1 #[]).2 = es0
        rw [hrt]
      rwa [hev] at this
    have hpair : ∀ b b', ρ1 b b' → b = b' ∧ N b := fun b b' hb => by
      rcases r4.new b b' hb with x | ⟨j, x, _⟩
      · exact x
      · exact absurd (r3.lt hb).1 (by omega)
    rcases r5 e he' with ⟨ad, c, h1, h2, h3, h4⟩ | ⟨r, c, h1, h2, h3, h4⟩ | h1
    · obtain ⟨rfl, hmc⟩ := hpair _ _ h3
      exact .inl ⟨ad, h1, h2, hN _ hmc, h4⟩
    · obtain ⟨rfl, hmc⟩ := hpair _ _ h4
      exact .inr (.inl ⟨_, h1, h2, h3, hN _ hmc⟩)
    · exact .inr (.inr h1)
end

end Go.Proofs.YtepbidaoloplbaaDoor

namespace Go.Proofs.YtepbidaoloplbaaDoor
open Go Go.Conc

section
variable {P : Program} {main : Bool} {Sh : Nat → Prop} {Stop : (Nat → Prop) → Goroutine → World → Prop} {M : Nat → Prop} {w : World} {b : Frame} {a : Act} {k : List Item} {cs : List Frame} {ops : Array Oper} {i : Nat} {rest : List Nat} {o : Oper}
/-- The step into a call. -/
theorem Co.call {f : FuncId} {fn : Func} {args : Array Operand} {ats : Array TypeId} (ho : ops[i]? = some o) (hw : Region.wanted o (yielded ops a.tmps) = true) (hk : b.kind ≠ .early) (hop : o.op = .call { callee := .value (.func f), args, argTypes := ats })
    (hf : P.funcs[f]? = some fn) (hname : (fn.name == "runtime.NumGoroutine") = false) (hb : fn.body.isNone = false) (h : Co P main Sh Stop M (G (Frame.enter P f (args.map a.eval) .normal) (b.at a (.inRegion ops (i :: rest) :: k) :: cs)) w) : Co P main Sh Stop M (G (b.at a (.inRegion ops (i :: rest) :: k)) cs) w := by
  refine .ctl rfl (fun w1 => ?_) h
  rw [stepG_enter ho hw hk (run_call_body hop hf hname hb)]
  have : listed P b.fn a o w1 = #[] := by unfold listed; rw [events_call_body hop hf hname hb]; exact seen_none P _
  rw [this]
/-- The load of an array of numbers that is mine. -/
theorem Co.loadRow {t e : TypeId} {x : Operand} {β : Nat} {X : Array Value} {fr : Nat × Nat} {d : TypeDesc} (ho : ops[i]? = some o) (hw : Region.wanted o (yielded ops a.tmps) = true) (hk : b.kind ≠ .early) (hop : o.op = .load t x) (hx : a.eval x = .pointer (some ⟨β, 0, none⟩))
    (hβ : w.heap[β]? = some (.cells X e fr)) (hM : M β) (hS : ¬ Sh β) (hSw : ∀ b, Sh b → b < w.heap.size) (hX : ∀ v ∈ X, flatC v = true) (hu : P.underlying t = some d) (hd : (match d with | .struct _ | .array _ _ => true | _ => false) = true) (hi : (P.info? t).map (·.size) = some X.size)
    (h : Co P main Sh Stop M (G (b.at (a.put o.dst (.agg X)) (.inRegion ops rest :: k)) cs) w) : Co P main Sh Stop M (G (b.at a (.inRegion ops (i :: rest) :: k)) cs) w := by
  refine Co.looks (N := fun b => b = β) (n := 0) (A := fun _ => False) ho hw hk (fun b hb => hb ▸ hM) ?_ (fun w1 hk1 => ⟨fun b hb => ?_, fun b hs hb => absurd (hb ▸ hs) hS, fun b hb => Nat.lt_of_lt_of_le (hSw b hb) hk1.size, Nat.zero_le _⟩) (fun w1 hk1 => ?_) h
  · unfold execOp
    rw [hop]
    simp only [hx]
    exact sim_value ((sim_sureAddr (.ptr (show RelA (idr (fun b => b = β) 0 fun _ => False) ⟨β, 0, none⟩ ⟨β, 0, none⟩ from ⟨show β = β ∧ β = β from ⟨rfl, rfl⟩, rfl, rfl, fun _ => rfl, Nat.zero_le _⟩))).bd fun ρ1 u u' _ hu => sim_loadVar hu t)
  · subst hb
    refine ⟨_, (hk1.heap _ hM).trans hβ, .cells e rfl ⟨rfl, fun i v v' h1 h2 => ?_⟩ fun i h1 h2 => ⟨h1, h2⟩⟩
    rw [h1] at h2
    cases h2
    exact flatC_rel (hX v (Array.mem_of_getElem? h1))
  · unfold execOp
    rw [hop]
    simp [hx, Instr.loadAt, Instr.sureAddr, run_loadVar_row w1 β e t X fr d ((hk1.heap _ hM).trans hβ) hu hd hi]
end

/-! ### the round -/
section
variable {Sh : Nat → Prop} {Stop : (Nat → Prop) → Goroutine → World → Prop} {M : Nat → Prop} {w : World}
noncomputable def RK : Code := match LK with | .seq _ (.seq _ (.seq _ r)) => r | _ => .skip
noncomputable def opsK : Array Oper := match LK with | .seq _ (.seq _ (.seq (.block _ (.seq _ (.region _ ops _))) _)) => ops | _ => #[]
/-- At the call of block; behind it, at the send. -/
noncomputable def callerK (X : Array Value) (ch : Nat) (c m : Int) (β : Nat) (i : Int) (u5 u6 u7 u9 v19 u20 : Value) (rest : List Nat) : Frame :=
  bK.at ⟨#[.agg X, .chan (some ch), .int .i64 c, .int .i64 m, .pointer (some ⟨β, 0, none⟩), u5, u6, u7, .int .i64 i, u9, .int .i64 m, .int .i64 i, .bool true, .int .i64 i, .chan (some ch), .agg X, .int .i64 c, .int .i64 i, .int .i64 (c + i), v19, u20], [closeK ch]⟩ [.inRegion opsK rest, .inBlock 1, .code RK, .inLoop LK, .inBlock 0]
set_option maxRecDepth 100000 in
theorem round_K (X : Array Value) (ch : Nat) (c m : Int) (β : Nat) (i : Int) (hi : i < m) (hc : IntKind.i64.wrap (c + i) = c + i) (fr : Nat × Nat) (hβ : w.heap[β]? = some (.cells X 48 fr)) (hM : M β) (hS : ¬ Sh β) (hSw : ∀ b, Sh b → b < w.heap.size) (hX : ∀ v ∈ X, flatC v = true) (hs : X.size = 16)
    (u5 u6 u7 u8 u9 u12 u13 u14 u15 u16 u17 u18 u19 u20 : Value)
    (next : Co Tryd.prog false Sh Stop M (G (Frame.enter Tryd.prog 32 #[.agg X, .int .i64 (c + i)] .normal) [callerK X ch c m β i u5 u6 u7 u9 u19 u20 [5, 6], botK]) w) :
    Co Tryd.prog false Sh Stop M (headK X ch c m β i u5 u6 u7 u8 u9 u12 u13 u14 u15 u16 u17 u18 u19 u20) w := by
  simp only [callerK, headK, RK, opsK, LK, bodyK, Tryd.f30, Option.getD_some] at next ⊢
  iterate 2 (first | with_reducible refine Co.ctlG (fun _ => stepG_seq) ?_ | with_reducible refine Co.ctlG (fun _ => stepG_skip) ?_ | with_reducible refine Co.ctlG (fun _ => stepG_block) ?_ | with_reducible refine Co.ctlG (fun _ => stepG_loop) ?_ | with_reducible refine Co.ctlG (fun _ => stepG_inLoop) ?_ | with_reducible refine Co.ctlG (fun _ => stepG_inBlock) ?_ | with_reducible refine Co.ctlG (fun _ => stepG_region_end) ?_ | (with_reducible refine Co.ctlG (fun _ => stepG_region) ?_; (try simp only [List.size_toArray]); (try simp only [List.length_cons]); (try simp only [List.length_nil]); (try simp only [Nat.zero_add]); (try simp only [Nat.reduceAdd]); (try simp only [List.range]); (try simp only [List.range.loop])))
  refine Co.value (v := .bool true) rfl rfl (by decide) (fun _ => by simp [go_sem, execOp, Act.eval, hi]) (fun _ => by simp [go_sem, execOp, Act.eval]) ?_
  walk_nrm
  iterate 2 (first | with_reducible refine Co.ctlG (fun _ => stepG_seq) ?_ | with_reducible refine Co.ctlG (fun _ => stepG_skip) ?_ | with_reducible refine Co.ctlG (fun _ => stepG_block) ?_ | with_reducible refine Co.ctlG (fun _ => stepG_loop) ?_ | with_reducible refine Co.ctlG (fun _ => stepG_inLoop) ?_ | with_reducible refine Co.ctlG (fun _ => stepG_inBlock) ?_ | with_reducible refine Co.ctlG (fun _ => stepG_region_end) ?_ | (with_reducible refine Co.ctlG (fun _ => stepG_region) ?_; (try simp only [List.size_toArray]); (try simp only [List.length_cons]); (try simp only [List.length_nil]); (try simp only [Nat.zero_add]); (try simp only [Nat.reduceAdd]); (try simp only [List.range]); (try simp only [List.range.loop])))
  refine Co.ctlG (fun _ => stepG_cond (t := true) rfl) ?_
  simp only [if_true]
  iterate 5 (first | with_reducible refine Co.ctlG (fun _ => stepG_seq) ?_ | with_reducible refine Co.ctlG (fun _ => stepG_skip) ?_ | with_reducible refine Co.ctlG (fun _ => stepG_block) ?_ | with_reducible refine Co.ctlG (fun _ => stepG_loop) ?_ | with_reducible refine Co.ctlG (fun _ => stepG_inLoop) ?_ | with_reducible refine Co.ctlG (fun _ => stepG_inBlock) ?_ | with_reducible refine Co.ctlG (fun _ => stepG_region_end) ?_ | (with_reducible refine Co.ctlG (fun _ => stepG_region) ?_; (try simp only [List.size_toArray]); (try simp only [List.length_cons]); (try simp only [List.length_nil]); (try simp only [Nat.zero_add]); (try simp only [Nat.reduceAdd]); (try simp only [List.range]); (try simp only [List.range.loop])))
  iterate 2 (refine Co.value rfl rfl (by decide) (fun _ => by simp [execOp, Act.eval]; rfl) (fun _ => by simp [execOp, Act.eval]) ?_; walk_nrm)
  iterate 2 (first | with_reducible refine Co.ctlG (fun _ => stepG_seq) ?_ | with_reducible refine Co.ctlG (fun _ => stepG_skip) ?_ | with_reducible refine Co.ctlG (fun _ => stepG_block) ?_ | with_reducible refine Co.ctlG (fun _ => stepG_loop) ?_ | with_reducible refine Co.ctlG (fun _ => stepG_inLoop) ?_ | with_reducible refine Co.ctlG (fun _ => stepG_inBlock) ?_ | with_reducible refine Co.ctlG (fun _ => stepG_region_end) ?_ | (with_reducible refine Co.ctlG (fun _ => stepG_region) ?_; (try simp only [List.size_toArray]); (try simp only [List.length_cons]); (try simp only [List.length_nil]); (try simp only [Nat.zero_add]); (try simp only [Nat.reduceAdd]); (try simp only [List.range]); (try simp only [List.range.loop])))
  (refine Co.value rfl rfl (by decide) (fun _ => by simp [execOp, Act.eval]; rfl) (fun _ => by simp [execOp, Act.eval]) ?_; walk_nrm)
  refine Co.loadRow (d := .array 16 46) rfl rfl (by decide) rfl rfl hβ hM hS hSw hX rfl rfl (by rw [hs]; rfl) ?_
  walk_nrm
  iterate 2 (refine Co.value rfl rfl (by decide) (fun _ => by simp [execOp, Act.eval]; rfl) (fun _ => by simp [execOp, Act.eval]) ?_; walk_nrm)
  refine Co.value (v := .int .i64 (c + i)) rfl rfl (by decide) (fun _ => by simp [go_sem, execOp, Act.eval, hc]) (fun _ => by simp [go_sem, execOp, Act.eval]) ?_
  walk_nrm
  refine Co.call rfl rfl (by decide) rfl Tryd.func32 (by kernel_rfl) (by kernel_rfl) ?_
  walk_nrm
  exact next
end

end Go.Proofs.YtepbidaoloplbaaDoor

namespace Go.Proofs.YtepbidaoloplbaaDoor
open Go Go.Conc

section
variable {Sh : Nat → Prop} {Stop : (Nat → Prop) → Goroutine → World → Prop} {M : Nat → Prop} {w : World}
set_option maxRecDepth 100000 in
theorem send_K (X : Array Value) (ch : Nat) (c m : Int) (β : Nat) (i : Int) (u5 u6 u7 u9 v u20 : Value) (w : World) :
    stepG Tryd.prog false (G (callerK X ch c m β i u5 u6 u7 u9 v u20 [6]) [botK]) w = .comm (G (callerK X ch c m β i u5 u6 u7 u9 v u20 [6]) [botK]) #[scase ch v (.tuple #[])] true .send w #[] := by
  simp only [callerK, opsK, LK, bodyK, Tryd.f30, Option.getD_some]
  rw [stepG_comm (cases := #[scase ch v (.tuple #[])]) (blocking := true) (shape := .send) (w' := w) rfl rfl (by decide) (by simp [execOp, scase, Act.eval])]
  simp [listed, execOp, seen]
set_option maxRecDepth 100000 in
theorem sent_K (X : Array Value) (ch : Nat) (c m : Int) (β : Nat) (i : Int) (u5 u6 u7 u9 v u20 : Value) :
    (G (callerK X ch c m β i u5 u6 u7 u9 v u20 [6]) [botK]).finishComm Tryd.prog #[scase ch v (.tuple #[])] .send 0 undef false = G (callerK X ch c m β i u5 u6 u7 u9 v u20 []) [botK] := by
  simp only [callerK, opsK, RK, LK, bodyK, Tryd.f30, Option.getD_some]
  rfl
set_option maxRecDepth 100000 in
theorem finish_K (X : Array Value) (ch : Nat) (c m : Int) (β : Nat) (i : Int) (u5 u6 u7 u9 u19 v u20 : Value) :
    (callerK X ch c m β i u5 u6 u7 u9 u19 u20 [5, 6]).finish v = callerK X ch c m β i u5 u6 u7 u9 v u20 [6] := by
  simp only [callerK, opsK, RK, LK, bodyK, Tryd.f30, Option.getD_some]
  rfl
set_option maxRecDepth 100000 in
theorem after_K (X : Array Value) (ch : Nat) (c m : Int) (β : Nat) (i : Int) (hw : IntKind.i64.wrap (i + 1) = i + 1) (u5 u6 u7 u9 v u20 : Value)
    (next : ∀ u8 u12 u13 u14 u15 u16 u17 u18 u19 u20, Co Tryd.prog false Sh Stop M (headK X ch c m β (i + 1) u5 u6 u7 u8 u9 u12 u13 u14 u15 u16 u17 u18 u19 u20) w) :
    Co Tryd.prog false Sh Stop M (G (callerK X ch c m β i u5 u6 u7 u9 v u20 []) [botK]) w := by
  simp only [callerK, headK, opsK, RK, LK, bodyK, Tryd.f30, Option.getD_some] at next ⊢
  iterate 3 (first | with_reducible refine Co.ctlG (fun _ => stepG_seq) ?_ | with_reducible refine Co.ctlG (fun _ => stepG_skip) ?_ | with_reducible refine Co.ctlG (fun _ => stepG_block) ?_ | with_reducible refine Co.ctlG (fun _ => stepG_loop) ?_ | with_reducible refine Co.ctlG (fun _ => stepG_inLoop) ?_ | with_reducible refine Co.ctlG (fun _ => stepG_inBlock) ?_ | with_reducible refine Co.ctlG (fun _ => stepG_region_end) ?_ | (with_reducible refine Co.ctlG (fun _ => stepG_region) ?_; (try simp only [List.size_toArray]); (try simp only [List.length_cons]); (try simp only [List.length_nil]); (try simp only [Nat.zero_add]); (try simp only [Nat.reduceAdd]); (try simp only [List.range]); (try simp only [List.range.loop])))
  refine Co.value (v := .int .i64 (i + 1)) rfl rfl (by decide) (fun _ => by simp [go_sem, execOp, Act.eval, hw]) (fun _ => by simp [go_sem, execOp, Act.eval]) ?_
  walk_nrm
  (refine Co.value rfl rfl (by decide) (fun _ => by simp [execOp, Act.eval]; rfl) (fun _ => by simp [execOp, Act.eval]) ?_; walk_nrm)
  iterate 2 (first | with_reducible refine Co.ctlG (fun _ => stepG_seq) ?_ | with_reducible refine Co.ctlG (fun _ => stepG_skip) ?_ | with_reducible refine Co.ctlG (fun _ => stepG_block) ?_ | with_reducible refine Co.ctlG (fun _ => stepG_loop) ?_ | with_reducible refine Co.ctlG (fun _ => stepG_inLoop) ?_ | with_reducible refine Co.ctlG (fun _ => stepG_inBlock) ?_ | with_reducible refine Co.ctlG (fun _ => stepG_region_end) ?_ | (with_reducible refine Co.ctlG (fun _ => stepG_region) ?_; (try simp only [List.size_toArray]); (try simp only [List.length_cons]); (try simp only [List.length_nil]); (try simp only [Nat.zero_add]); (try simp only [Nat.reduceAdd]); (try simp only [List.range]); (try simp only [List.range.loop])))
  exact next ..
/-- On its way out: the close is still to be made. -/
noncomputable def outK (X : Array Value) (ch : Nat) (c m : Int) (β : Nat) (i : Int) (u5 u6 u7 u8 u9 u13 u14 u15 u16 u17 u18 u19 u20 : Value) (ds : List Deferred) : Goroutine :=
  G { bK.at ⟨#[.agg X, .chan (some ch), .int .i64 c, .int .i64 m, .pointer (some ⟨β, 0, none⟩), u5, u6, u7, u8, u9, .int .i64 m, .int .i64 i, .bool false, u13, u14, u15, u16, u17, u18, u19, u20], ds⟩ [] with mode := .returning } [botK]
set_option maxRecDepth 100000 in
theorem done_K (X : Array Value) (ch : Nat) (c m : Int) (β : Nat) (i : Int) (hi : ¬ i < m) (u5 u6 u7 u8 u9 u12 u13 u14 u15 u16 u17 u18 u19 u20 : Value)
    (next : Co Tryd.prog false Sh Stop M (outK X ch c m β i u5 u6 u7 u8 u9 u13 u14 u15 u16 u17 u18 u19 u20 [closeK ch]) w) :
    Co Tryd.prog false Sh Stop M (headK X ch c m β i u5 u6 u7 u8 u9 u12 u13 u14 u15 u16 u17 u18 u19 u20) w := by
  simp only [outK, headK, LK, bodyK, Tryd.f30, Option.getD_some] at next ⊢
  iterate 2 (first | with_reducible refine Co.ctlG (fun _ => stepG_seq) ?_ | with_reducible refine Co.ctlG (fun _ => stepG_skip) ?_ | with_reducible refine Co.ctlG (fun _ => stepG_block) ?_ | with_reducible refine Co.ctlG (fun _ => stepG_loop) ?_ | with_reducible refine Co.ctlG (fun _ => stepG_inLoop) ?_ | with_reducible refine Co.ctlG (fun _ => stepG_inBlock) ?_ | with_reducible refine Co.ctlG (fun _ => stepG_region_end) ?_ | (with_reducible refine Co.ctlG (fun _ => stepG_region) ?_; (try simp only [List.size_toArray]); (try simp only [List.length_cons]); (try simp only [List.length_nil]); (try simp only [Nat.zero_add]); (try simp only [Nat.reduceAdd]); (try simp only [List.range]); (try simp only [List.range.loop])))
  refine Co.value (v := .bool false) rfl rfl (by decide) (fun _ => by simp [go_sem, execOp, Act.eval, hi]) (fun _ => by simp [go_sem, execOp, Act.eval]) ?_
  walk_nrm
  iterate 2 (first | with_reducible refine Co.ctlG (fun _ => stepG_seq) ?_ | with_reducible refine Co.ctlG (fun _ => stepG_skip) ?_ | with_reducible refine Co.ctlG (fun _ => stepG_block) ?_ | with_reducible refine Co.ctlG (fun _ => stepG_loop) ?_ | with_reducible refine Co.ctlG (fun _ => stepG_inLoop) ?_ | with_reducible refine Co.ctlG (fun _ => stepG_inBlock) ?_ | with_reducible refine Co.ctlG (fun _ => stepG_region_end) ?_ | (with_reducible refine Co.ctlG (fun _ => stepG_region) ?_; (try simp only [List.size_toArray]); (try simp only [List.length_cons]); (try simp only [List.length_nil]); (try simp only [Nat.zero_add]); (try simp only [Nat.reduceAdd]); (try simp only [List.range]); (try simp only [List.range.loop])))
  refine Co.ctlG (fun _ => stepG_cond (t := false) rfl) ?_
  simp only [Bool.false_eq_true, if_false]
  refine Co.ctlG (fun _ => stepG_exit rfl) ?_
  refine Co.ctlG (fun _ => stepG_end) ?_
  exact next
theorem quits_K (X : Array Value) (ch : Nat) (c m : Int) (β : Nat) (i : Int) (u5 u6 u7 u8 u9 u13 u14 u15 u16 u17 u18 u19 u20 : Value) : QuitsD Tryd.prog 2 0 (outK X ch c m β i u5 u6 u7 u8 u9 u13 u14 u15 u16 u17 u18 u19 u20 []) := by
  refine .ctl rfl (g' := G botK []) (fun w => ?_) (.ctl rfl (g' := { G botK [] with status := .finished }) (fun w => ?_) ⟨rfl, rfl⟩)
  · simp [outK, G, stepG, unwind, doReturn, results, Frame.at, bK, botK, Tryd.func30, Tryd.f30, seen, GStep.after, goexitEntry]
  · simp [G, stepG, unwind, botK, goexitEntry, Frame.catches]
    rfl
theorem close_K (X : Array Value) (ch : Nat) (c m : Int) (β : Nat) (i : Int) (u5 u6 u7 u8 u9 u13 u14 u15 u16 u17 u18 u19 u20 : Value) (w : World) : AtClose Tryd.prog ch M (outK X ch c m β i u5 u6 u7 u8 u9 u13 u14 u15 u16 u17 u18 u19 u20 [closeK ch]) w := by
  refine ⟨_, _, rfl, ?_, fun cap buf s r tm hc => ⟨_, 2, ?_, quits_K X ch c m β i u5 u6 u7 u8 u9 u13 u14 u15 u16 u17 u18 u19 u20⟩⟩
  · rfl
  · have hr := run_close_open (P := Tryd.prog) #[68] 0 hc
    have he := events_close_open (P := Tryd.prog) (es := #[]) #[68] 0 hc
    have hi : invoke (.builtin .close #[68] 0 #[false]) #[.chan (some ch)] = (do pure (.value (← Builtin.close_ #[68] 0 #[.chan (some ch)])) : Sem Next) := rfl
    have hr2 : (invoke (.builtin .close #[68] 0 #[false]) #[.chan (some ch)]).run Tryd.prog w = .ok (.value (.tuple #[])) (w.setChan ch cap buf true s r tm) := by rw [hi]; simp [hr, World.setChan]
    have he2 : (invoke (.builtin .close #[68] 0 #[false]) #[.chan (some ch)]).events Tryd.prog w #[] = #[⟨.obj ch, false, true⟩, ⟨.obj ch, true, true⟩] := by rw [hi]; simp [he]
    have hs : seen Tryd.prog bK.fn #[⟨.obj ch, false, true⟩, ⟨.obj ch, true, true⟩] = #[⟨.obj ch, false, true⟩, ⟨.obj ch, true, true⟩] := seen_eq (by simp [bK, Tryd.func30, Tryd.f30]) (by simp)
    simp [outK, G, stepG, unwind, callDeferred, closeK, Frame.at, GStep.after, hr2, he2, hs]
end

end Go.Proofs.YtepbidaoloplbaaDoor

namespace Go.Proofs.YtepbidaoloplbaaDoor
open Go Go.Conc

/-- The table's block is nobody's to write. -/
def ShS (b : Nat) : Prop := glS b = true
theorem shS_iff (b : Nat) : ShS b ↔ b = 0 := by simp [ShS, glS]
/-- A world that holds the table alone. -/
noncomputable def ghostK (w : World) (C : Array Value) (e : TypeId) : World := { w with heap := Array.replicate Tryd.prog.globals.size (.cells C e (0, C.size)) }
noncomputable def renK : Ren := ⟨fun b b' => b = 0 ∧ b' = 0, Tryd.prog.globals.size, fun f => alS f = true, fun _ => 0, fun _ _ => rfl, 97, fun f n => glS.d f n = true⟩
theorem bogS : Tryd.prog.info? 97 = none := by kernel_rfl
theorem tableK : 0 < Tryd.prog.globals.size := by
  have : decide (0 < Tryd.prog.globals.size) = true := by kernel_rfl
  exact of_decide_eq_true this
theorem sit_K {w : World} {C : Array Value} {e : TypeId} {lo hi : Nat} (hT : w.heap[0]? = some (.cells C e (lo, hi))) (hC : ∀ v ∈ C, flatC v = true) (hfr : ∀ i, lo ≤ i → i < hi → i < C.size) : Sit 0 Tryd.prog glS alS ShS renK (ghostK w C e) w := by
  have hgh : (ghostK w C e).heap[0]? = some (.cells C e (0, C.size)) := by
    show (Array.replicate Tryd.prog.globals.size _)[_]? = _
    rw [Array.getElem?_replicate, if_pos tableK]
  refine ⟨⟨fun b b' hb => ?_, fun b b' c' h1 h2 => h1.2.trans h2.2.symm, fun b c b' h1 h2 => .inl (h1.1.trans h2.1.symm), fun _ _ => rfl, fun i q h => absurd h (Nat.not_lt_zero _), fun b b' hs hb => ?_⟩, fun b hb => ?_, ⟨rfl, bogS⟩, rfl, rfl, fun g hg => ?_, ?_⟩
  · obtain ⟨rfl, rfl⟩ := hb
    refine ⟨_, _, hgh, hT, .cells e rfl ⟨rfl, fun i v v' h1 h2 => ?_⟩ fun i h1 h2 => ⟨Nat.zero_le _, hfr i h1 h2⟩⟩
    rw [h1] at h2
    cases h2
    exact flatC_rel (hC v (Array.mem_of_getElem? h1))
  · obtain ⟨rfl, rfl⟩ := hb
    exact ⟨C, e, C.size, hgh, Nat.le_refl _⟩
  · rw [(shS_iff b).1 hb]
    exact Nat.lt_of_lt_of_eq tableK (by simp [ghostK])
  · rw [(shS_iff g).1 hg]
    exact ⟨⟨rfl, rfl⟩, rfl⟩
  · simp [ghostK]
/-- Numbers that lie in the one world lie in the other. -/
theorem cells_over {L : Nat} {Sh : Nat → Prop} {ρ : Ren} {wg w : World} (h : RelW L Sh ρ wg w) {b o n c : Nat} {v' : Value} (hv : RelV ρ (.slice (some ⟨b, o, none⟩) n c) v') (f : Nat → Int) (k : IntKind) (hc : ∀ i, i < n → wg.cell? ⟨b, o + i, none⟩ = some (.int k (f i))) :
    ∃ b', v' = .slice (some ⟨b', o, none⟩) n c ∧ ρ b b' ∧ ∀ i, i < n → w.cell? ⟨b', o + i, none⟩ = some (.int k (f i)) := by
  cases hv with
  | @slice a a' n c ha =>
    obtain ⟨b', o', s'⟩ := a'
    obtain ⟨hb, e1, e2, hg⟩ := ha
    simp only at hb e1 e2 hg
    subst e1 e2
    refine ⟨b', rfl, hb, fun i hi => ?_⟩
    obtain ⟨v2, h1, h2⟩ := (h.cell (a := ⟨b, o' + i, none⟩) (a' := ⟨b', o' + i, none⟩) ⟨hb, rfl, rfl, hg.1, by have := hg.2; show ρ.lo b ≤ o' + i + 1; omega⟩).1 _ (hc i hi)
    rw [h1]
    cases h2
    rfl

end Go.Proofs.YtepbidaoloplbaaDoor

namespace Go.Proofs.YtepbidaoloplbaaDoor
open Go Go.Conc

/-- The table lies in the world. -/
def TableIn (C : Array Value) (e : TypeId) (w : World) : Prop := ∃ lo hi, w.heap[0]? = some (.cells C e (lo, hi)) ∧ ∀ i, lo ≤ i → i < hi → i < C.size
/-- A slice of 64 bytes. -/
def Sixty (bs : Nat → Int) (v : Value) (b : Nat) (w : World) : Prop := ∃ o cc, v = .slice (some ⟨b, o, none⟩) 64 cc ∧ ∀ j, j < 64 → w.cell? ⟨b, o + j, none⟩ = some (.int .u8 (bs j))
/-- What message i is. -/
def MsgK (bs : Nat → Nat → Int) (i : Nat) (v : Value) (N : Nat → Prop) (w : World) : Prop := ∃ b, N b ∧ Sixty (bs i) v b w
theorem cell_keeps {M : Nat → Prop} {w w1 : World} (h : Keeps M w w1) {a : Addr} (ha : M a.block) : w1.cell? a = w.cell? a := by
  simp only [World.cell?, h.heap _ ha]
theorem Sixty.keeps {bs : Nat → Int} {v : Value} {b : Nat} {w w1 : World} {M : Nat → Prop} (h : Sixty bs v b w) (hb : M b) (hk : Keeps M w w1) : Sixty bs v b w1 := by
  obtain ⟨o, cc, h1, h4⟩ := h
  exact ⟨o, cc, h1, fun j hj => (cell_keeps hk hb).trans (h4 j hj)⟩
theorem msgK_keeps (bs : Nat → Nat → Int) (m : Nat) (v : Value) (N : Nat → Prop) (w w1 : World) (h : MsgK bs m v N w) (hk : Keeps N w w1) : MsgK bs m v N w1 := by
  obtain ⟨b, hb, h⟩ := h
  exact ⟨b, hb, h.keeps hb hk⟩
/-- What is flat is alike only what is the same. -/
theorem flat_same {ρ : Ren} {v v' : Value} (h : RelV ρ v v') (hf : flatC v = true) : v' = v := by
  cases h <;> simp_all [flatC] <;> exact Array.size_eq_zero_iff.1 (by omega)
theorem row_same {ρ : Ren} {c c' : Array Value} (h : RelR ρ c c') (hf : ∀ x ∈ c, flatC x = true) : c' = c := by
  apply Array.ext_getElem?
  intro i
  rcases Nat.lt_or_ge i c.size with hi | hi
  · have hi' : i < c'.size := by rw [← h.1]; exact hi
    have h1 := Array.getElem?_eq_getElem hi
    have h2 := Array.getElem?_eq_getElem hi'
    rw [h1, h2, flat_same (h.2 i _ _ h1 h2) (hf _ (Array.getElem_mem hi))]
  · rw [Array.getElem?_eq_none hi, Array.getElem?_eq_none (by rw [← h.1]; exact hi)]
theorem Sixty.over {L : Nat} {Sh : Nat → Prop} {ρ : Ren} {wg w : World} (h : RelW L Sh ρ wg w) {bs : Nat → Int} {v v' : Value} {b : Nat} (hs : Sixty bs v b wg) (hv : RelV ρ v v') : ∃ b', ρ b b' ∧ Sixty bs v' b' w := by
  obtain ⟨o, cc, rfl, h4⟩ := hs
  obtain ⟨b', e1, hb, hc⟩ := cells_over h hv bs .u8 h4
  exact ⟨b', hb, o, cc, e1, hc⟩

section
variable (X : Array Value) (ch : Nat) (c : Int) (m β : Nat) (C : Array Value) (e : TypeId) (bs : Nat → Nat → Int)
/-- What block answers alone, i blocks behind the first. -/
def BlockIs : Prop := ∀ i, i < m → ∀ wg : World, Tryd.prog.globals.size ≤ wg.heap.size → wg.heap[0]? = some (.cells C e (0, C.size)) →
  Calls Tryd.prog 32 #[.agg X, .int .i64 (c + (i : Int))] wg fun ex w1 => ∃ v, ex = .returned v ∧ (∃ b, wg.heap.size ≤ b ∧ Sixty (bs i) v b w1) ∧ w1.heap[0]? = some (.cells C e (0, C.size))
/-- What holds at the loop's head. -/
structure HeadK (X : Array Value) (β : Nat) (C : Array Value) (e : TypeId) (M : Nat → Prop) (w : World) : Prop where
  box : ∃ fr, w.heap[β]? = some (.cells X 48 fr)
  mine : M β
  own : ¬ ShS β
  sh : ∀ b, ShS b → M b
  table : TableIn C e w
  low : ∀ b, M b → b < w.heap.size
theorem HeadK.keeps {M : Nat → Prop} {w w1 : World} (h : HeadK X β C e M w) (hk : Keeps M w w1) : HeadK X β C e M w1 := by
  obtain ⟨fr, hb⟩ := h.box
  obtain ⟨lo, hi, ht, hl⟩ := h.table
  exact ⟨⟨fr, (hk.heap _ h.mine).trans hb⟩, h.mine, h.own, h.sh, ⟨lo, hi, (hk.heap _ (h.sh _ ((shS_iff _).2 rfl))).trans ht, hl⟩, fun b hb => Nat.lt_of_lt_of_le (h.low b hb) hk.size⟩
variable (hX : ∀ v ∈ X, flatC v = true) (hs : X.size = 16) (hC : ∀ v ∈ C, flatC v = true) (hc : ∀ i : Nat, i < m → IntKind.i64.wrap (c + (i : Int)) = c + (i : Int)) (hm : ∀ i : Nat, i < m → IntKind.i64.wrap ((i : Int) + 1) = (i : Int) + 1) (hB : BlockIs X c m C e bs)
include hX hs hC hc hm hB
theorem snd_K (n : Nat) : ∀ (i : Nat), n + i = m → ∀ (M : Nat → Prop) (w : World), HeadK X β C e M w → ∀ u5 u6 u7 u8 u9 u12 u13 u14 u15 u16 u17 u18 u19 u20,
    Co Tryd.prog false ShS (SStop Tryd.prog ShS ch (MsgK bs) n i) M (headK X ch c m β i u5 u6 u7 u8 u9 u12 u13 u14 u15 u16 u17 u18 u19 u20) w := by
  induction n with
  | zero =>
    intro i hi M w H u5 u6 u7 u8 u9 u12 u13 u14 u15 u16 u17 u18 u19 u20
    refine done_K X ch c m β i (by omega) u5 u6 u7 u8 u9 u12 u13 u14 u15 u16 u17 u18 u19 u20 (.stop fun w1 _ => ?_)
    exact close_K X ch c m β i u5 u6 u7 u8 u9 u13 u14 u15 u16 u17 u18 u19 u20 w1
  | succ n ih =>
    intro i hi M w H u5 u6 u7 u8 u9 u12 u13 u14 u15 u16 u17 u18 u19 u20
    obtain ⟨fr, hbox⟩ := H.box
    obtain ⟨lo, hh, ht, hl⟩ := H.table
    have hgM : M 0 := H.sh _ ((shS_iff _).2 rfl)
    refine round_K X ch c m β i (by omega) (hc i (by omega)) fr hbox H.mine H.own (fun b hb => H.low b (H.sh b hb)) hX hs u5 u6 u7 u8 u9 u12 u13 u14 u15 u16 u17 u18 u19 u20 ?_
    refine co_call_in (Gl := glS) (Al := alS) (ρ := renK) (R := fun b => M b ∧ ¬ ShS b) (args := #[.agg X, .int .i64 (c + (i : Int))]) (wg := ghostK w C e)
      (Post := fun v w1 => (∃ b, Tryd.prog.globals.size ≤ b ∧ Sixty (bs i) v b w1) ∧ w1.heap[0]? = some (.cells C e (0, C.size))) tameS (fun b b' hb _ => (shS_iff b).2 hb.1) (fun b hb => H.low b (H.sh b hb)) (by rfl) (fun τ => ?_) (sit_K ht hC hl) ?_ (fun b => ?_) (fun b hb => ⟨H.low b hb.1, fun ⟨c, hc⟩ => hb.2 ((shS_iff b).2 hc.2)⟩) fun ρ1 v v' w1g w1 M' hv hP hrel hle hnew hM' hkR => ?_
    · have hsz : (World.ret (ghostK w C e) τ).heap.size = Tryd.prog.globals.size := by simp [World.ret, ghostK]
      have := hB i (by omega) (World.ret (ghostK w C e) τ) (Nat.le_of_eq hsz.symm) (by show (Array.replicate Tryd.prog.globals.size _)[_]? = _; rw [Array.getElem?_replicate, if_pos tableK])
      rw [hsz] at this
      exact this
    · refine ⟨rfl, fun j x x' h1 h2 => ?_⟩
      rw [h1] at h2
      cases h2
      have hx : x = .agg X ∨ x = .int .i64 (c + (i : Int)) := by simpa using Array.mem_of_getElem? h1
      rcases hx with rfl | rfl
      · exact .agg rfl fun j y y' g1 g2 => by rw [g1] at g2; cases g2; exact flatC_rel (hX _ (Array.mem_of_getElem? g1))
      · exact .int _ _
    · constructor
      · intro hb
        by_cases hz : ShS b
        · exact .inl ⟨_, rfl, (shS_iff b).1 hz⟩
        · exact .inr ⟨hb, hz⟩
      · rintro (⟨_, _, rfl⟩ | hb)
        · exact hgM
        · exact hb.1
    · obtain ⟨⟨b, hbn, h60⟩, htab⟩ := hP
      obtain ⟨b', hbb, h60'⟩ := h60.over hrel hv
      have hnewb : w.heap.size ≤ b' := by
        rcases hnew b b' hbb with x | x
        · have := tableK
          rw [x.1] at hbn
          omega
        · exact x.2
      have hbM : M' b' := (hM' b').2 (.inl ⟨b, hbb⟩)
      have hbS : ¬ ShS b' := fun x => by
        have h1 := H.low _ hgM
        rw [(shS_iff b').1 x] at hnewb
        omega
      have hβlt := H.low β H.mine
      have hβ' : M' β := (hM' β).2 (.inr ⟨H.mine, H.own⟩)
      have htab1 : TableIn C e w1 := by
        obtain ⟨o, o', g1, g2, g3⟩ := hrel.obj _ _ (hle.app (show renK _ _ from ⟨rfl, rfl⟩))
        rw [htab] at g1
        cases g1
        cases g3 with
        | part hl => exact absurd (by rw [hle.lo]; rfl) hl
        | @cells c c' e lo hi lo' hi' _ hr hf =>
          rw [row_same hr hC] at g2
          exact ⟨lo', hi', g2, fun i h1 h2 => (hf i h1 h2).2⟩
      have H1 : HeadK X β C e M' w1 := ⟨⟨fr, (hkR.heap β ⟨H.mine, H.own⟩).trans hbox⟩, hβ', H.own, fun b hb => (hM' b).2 (.inl ⟨_, hle.app (show renK _ _ from ⟨rfl, (shS_iff b).1 hb⟩)⟩), htab1, fun b hb => by
        rcases (hM' b).1 hb with ⟨d, hd⟩ | hb
        · exact (hrel.lt hd).2
        · exact Nat.lt_of_lt_of_le (H.low b hb.1) hkR.size⟩
      rw [finish_K]
      refine .stop fun w2 hk2 => ⟨_, _, v', .tuple #[], fun b => b = b', rfl, send_K X ch c m β i u5 u6 u7 u9 v' u20 w2, fun b hb => hb ▸ ⟨hbM, hbS⟩, ⟨b', rfl, h60'.keeps hbM hk2⟩, fun w3 hk3 => ?_⟩
      rw [sent_K]
      have H2 := H1.keeps X β C e hk2
      have H3 : HeadK X β C e (fun b => M' b ∧ ¬ b = b') w2 := ⟨H2.box, ⟨hβ', by omega⟩, H2.own, fun b hb => ⟨H2.sh b hb, fun x => hbS (x ▸ hb)⟩, H2.table, fun b hb => H2.low b hb.1⟩
      have H4 := H3.keeps X β C e hk3
      have hn1 := ih (i + 1) (by omega) _ w3 H4
      exact after_K X ch c m β i (hm i (by omega)) u5 u6 u7 u9 v' u20 fun u8 u12 u13 u14 u15 u16 u17 u18 u19 u20 => by
        have := hn1 u5 u6 u7 u8 u9 u12 u13 u14 u15 u16 u17 u18 u19 u20
        rw [show ((i + 1 : Nat) : Int) = (i : Int) + 1 by omega] at this
        exact this
end

end Go.Proofs.YtepbidaoloplbaaDoor
