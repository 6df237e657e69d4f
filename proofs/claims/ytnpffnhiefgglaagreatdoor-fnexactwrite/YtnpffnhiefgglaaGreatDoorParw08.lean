/-
  A part of the proof.
-/
import Derived.Test.YtnpffnhiefgglaaGreatDoorParw07
namespace Go.Proofs.YtnpffnhiefgglaaGreatDoor
open Go Go.Conc
set_option maxRecDepth 100000
open Go.ConcN (sumTo upd sumTo_upd upd_ne upd_same)
structure Open (P : Program) (Sh : Nat → Prop) (ch : Nat) (Msg : Nat → Value → (Nat → Prop) → World → Prop) (k T : Nat) (B M : Nat → Nat → Prop) (r s : Nat) (buf : Array Value) (gs : Array Goroutine) (w : World) (t : Trace) (q : Nat → Nat) : Prop where
  ow : Owns (fun b => Sh b ∨ b = ch) (fun g => g = 0 ∨ g = k) M w.heap.size t
  se : Sent (fun b => Sh b ∨ b = ch) M k ch B r s w.heap.size t
  al : AllK k t
  ch0 : ∀ g, ¬ M g ch
  chan : ∃ cap tm, T ≤ cap ∧ w.heap[ch]? = some (.chan cap buf false s r tm)
  size : r + buf.size = s
  msg : ∀ j v, buf[j]? = some v → Msg (r + j) v (B (r + j)) w
  leav : LeavX P k t gs q
  hk : k ≠ 0
section
variable {P : Program} {Sh : Nat → Prop} {ch : Nat} {Msg : Nat → Value → (Nat → Prop) → World → Prop} {Fin : (Nat → Prop) → Goroutine → World → Prop} {k T r s : Nat} {B M : Nat → Nat → Prop} {buf : Array Value} {gs : Array Goroutine} {w w' : World} {t : Trace} {q : Nat → Nat}
structure SAt (k : Nat) (Mk : Nat → Prop) (g : Goroutine) (wS : World) (gs : Array Goroutine) (w : World) (M : Nat → Nat → Prop) : Prop where
  keeps : Keeps Mk wS w
  at_ : gs[k]? = some g
  own : ∀ b, M k b ↔ Mk b
def RW (P : Program) (Sh : Nat → Prop) (ch : Nat) (Msg : Nat → Value → (Nat → Prop) → World → Prop) (Fin : (Nat → Prop) → Goroutine → World → Prop) (n r : Nat) (gs : Array Goroutine) (w : World) (M : Nat → Nat → Prop) : Prop :=
  ∃ M0 a wR, Co P true Sh (RStop P Sh ch Msg Fin n r) M0 a wR ∧ Keeps M0 wR w ∧ gs[0]? = some a ∧ ∀ b, M 0 b ↔ M0 b
def RH (P : Program) (Sh : Nat → Prop) (ch : Nat) (Msg : Nat → Value → (Nat → Prop) → World → Prop) (Fin : (Nat → Prop) → Goroutine → World → Prop) (n r : Nat) (gs : Array Goroutine) (w : World) (M : Nat → Nat → Prop) : Prop :=
  ∃ M0 a z, (∀ w1, Keeps M0 w w1 → RStop P Sh ch Msg Fin n r M0 a w1) ∧ gs[0]? = some (parked a #[rcase ch z] (.recv true)) ∧ ∀ b, M 0 b ↔ M0 b
theorem Open.lt (O : Open P Sh ch Msg k T B M r s buf gs w t q) : ch < w.heap.size := by
  obtain ⟨cap, tm, _, hc⟩ := O.chan
  exact (Array.getElem?_eq_some_iff.1 hc).1
theorem Open.other (O : Open P Sh ch Msg k T B M r s buf gs w t q) {g h : Nat} (hne : g ≠ h) {N R : Nat → Prop} (hN : ∀ b, M g b ↔ N b) (hR : ∀ b, M h b ↔ R b) {es : Array Event} (hG : Guar Sh N w w' es) : Keeps R w w' := hG.keeps fun b hb => by
  have hb' := (hR b).2 hb
  refine ⟨O.ow.bound h b hb', fun hm => ?_⟩
  have hm' := (hN b).2 hm
  by_cases hz : Sh b ∨ b = ch
  · rcases hz with hz | rfl
    · exact hz
    · exact absurd hb' (O.ch0 h)
  · exact absurd (O.ow.disj g h b hm' hb' hz) hne
theorem Open.step (hMsg : ∀ m v N w w1, Msg m v N w → Keeps N w w1 → Msg m v N w1) (O : Open P Sh ch Msg k T B M r s buf gs w t q) {i : Nat} (hi : i = 0 ∨ i = k) (hlt : i < gs.size) {N : Nat → Prop} (hN : ∀ b, M i b ↔ N b) {g g' : Goroutine} {es : Array Event} (hG : Guar Sh N w w' es) (fn : FuncId) (pos : String) :
    Open P Sh ch Msg k T B (owned M i w.heap.size w'.heap.size) r s buf ((gs.map (woken P g g' w')).setIfInBounds i g') w' (t ++ MemOp.ofEvents i fn pos es) q := by
  have hch : ∀ g, ¬ owned M i w.heap.size w'.heap.size g ch := fun g x => by
    rcases x with x | ⟨_, x, _⟩
    · exact O.ch0 g x
    · exact absurd O.lt (by omega)
  have hev : ∀ e ∈ es, EvM (fun b => Sh b ∨ b = ch) (owned M i w.heap.size w'.heap.size i) e := fun e he => evM_up (hG.ev e he) (fun b hb => hb.imp (fun x => (hN b).2 x) fun x => ⟨rfl, x⟩) fun x => hch i (x.imp (fun y => (hN ch).2 y) fun y => ⟨rfl, y⟩)
  have hops : ∀ op ∈ MemOp.ofEvents i fn pos es, op.g = i := fun op hop => by
    obtain ⟨e, h1, rfl⟩ := Go.Conc.mem_ofEvents hop
    rfl
  refine ⟨O.ow.step hi hG.size hev, O.se.step hG.size hev, O.al.app fun op hop => .inr (by rw [hops op hop]; exact hi), hch, ?_, O.size, fun j v hv => ?_, O.leav.own hi hlt hops, O.hk⟩
  · obtain ⟨cap, tm, h1, hc⟩ := O.chan
    exact ⟨cap, tm, h1, by rw [hG.rest ch O.lt fun x => O.ch0 i ((hN ch).2 x)]; exact hc⟩
  · have hj : r + j < s := by
      have := (Array.getElem?_eq_some_iff.1 hv).1
      have := O.size
      omega
    refine hMsg _ _ _ _ _ (O.msg j v hv) (hG.keeps fun b hb => ?_)
    have ap := O.se.apart (r + j) b (by omega) hj hb
    exact ⟨ap.1, fun x => absurd ((hN b).2 x) (ap.2.2 i)⟩
theorem Open.at (hMsg : ∀ m v N w w1, Msg m v N w → Keeps N w w1 → Msg m v N w1) (O : Open P Sh ch Msg k T B M r s buf gs w t q) (d : Nat) : Open P Sh ch Msg k T B M r s buf gs (w.at d) t q :=
  ⟨O.ow, O.se, O.al, O.ch0, O.chan, O.size, fun j v hv => hMsg _ _ _ _ _ (O.msg j v hv) (.at _ _ _), O.leav, O.hk⟩
theorem Open.slip (O : Open P Sh ch Msg k T B M r s buf gs w t q) {i : Nat} (hpos : 0 < i) (hik : i ≠ k) {g x y : Goroutine} (hi : gs[i]? = some g) (hg : g.status = .running) (hx : gs[0]? = some x) (hy : gs[k]? = some y) (wx : ∀ a a', woken P a a' w x = x) (wy : ∀ a a', woken P a a' w y = y) (sl : Option (Nat × Nat)) :
    ∃ gs1 ops q', runT P (crowd gs w sl) i = (.next (crowd gs1 w sl), ops) ∧ Open P Sh ch Msg k T B M r s buf gs1 w (t ++ ops) q' ∧ sumTo gs1.size q' < sumTo gs.size q ∧ gs1.size = gs.size ∧ gs1[0]? = some x ∧ gs1[k]? = some y := by
  obtain ⟨g', es, q', hmu, hgo, hL, hlt⟩ := O.leav.slip hpos hik hi hg g.frame.fn g.frame.place w
  refine ⟨_, _, q', runT_crowd_go hi hgo, ⟨O.ow.mute (by simp; omega) hmu, O.se.mute hmu, O.al.app fun op hop => ?_, O.ch0, O.chan, O.size, O.msg, hL, O.hk⟩, by simpa using hlt, by simp, ?_, ?_⟩
  · obtain ⟨e, h1, rfl⟩ := Go.Conc.mem_ofEvents hop
    exact .inl (touch_mute (hmu e h1))
  · have hne : i ≠ 0 := by omega
    rw [Array.getElem?_setIfInBounds_ne hne, Array.getElem?_map, hx]
    simp [wx]
  · rw [Array.getElem?_setIfInBounds_ne hik, Array.getElem?_map, hy]
    simp [wy]
theorem Open.awake (O : Open P Sh ch Msg k T B M r s buf gs w t q) {x y : Goroutine} (hx : gs[0]? = some x) (hy : gs[k]? = some y) (ax : x.status = .running ∨ x.status = .blocked ∨ x.status = .finished) (ay : y.status = .running) : ∀ g ∈ gs, Go.Conc.awake g := fun g hg => by
  obtain ⟨i, hi, rfl⟩ := Array.mem_iff_getElem.1 hg
  rcases Nat.eq_zero_or_pos i with rfl | hpos
  · have : gs[0] = x := by simpa [Array.getElem?_eq_getElem hi] using hx
    rw [this]; exact awake_of ax
  · by_cases hik : i = k
    · subst hik
      have : gs[i] = y := by simpa [Array.getElem?_eq_getElem hi] using hy
      rw [this]; exact awake_of (.inl ay)
    · exact awake_of ((O.leav.old i _ hpos hik (Array.getElem?_eq_getElem hi)).status.elim .inl fun x => .inr (.inr x))
theorem Open.alone (O : Open P Sh ch Msg k T B M r s buf gs w t q) {y : Goroutine} (hy : gs[k]? = some y) (ay : y.status = .running) : partners (gs.setIfInBounds 0 ph) ch true = [] := partners_nil fun j g hg => by
  rcases getElem?_stand gs 0 j g hg with ⟨_, rfl⟩ | ⟨hj, hg'⟩
  · exact offersAt_ph ch true
  · by_cases hjk : j = k
    · subst hjk
      rw [hy] at hg'
      cases hg'
      exact offersAt_of_not_blocked (by rw [ay]; simp) ch true
    · exact O.leav.free (by omega) hjk hg' ch true
end
section
variable {P : Program} {Sh : Nat → Prop} {ch : Nat} {Msg : Nat → Value → (Nat → Prop) → World → Prop} {Fin : (Nat → Prop) → Goroutine → World → Prop} {k T s : Nat} {B : Nat → Nat → Prop} {Goal : Array Goroutine → World → Option (Nat × Nat) → Trace → Prop} {sz : Nat} {Mk : Nat → Prop} {g : Goroutine} {wS : World}
variable (hMsg : ∀ m v N w w1, Msg m v N w → Keeps N w w1 → Msg m v N w1) (hg : g.status = .running)
include hMsg hg
theorem open_held {n r : Nat}
    (hK : ∀ (gs : Array Goroutine) (w : World) (sl : Option (Nat × Nat)) (t : Trace) (q : Nat → Nat) (M : Nat → Nat → Prop), Open P Sh ch Msg k T B M r s #[] gs w t q → SAt k Mk g wS gs w M → RH P Sh ch Msg Fin n r gs w M → gs.size = sz → ∃ gs1 w1 ops, runT P (crowd gs w sl) k = (.next (crowd gs1 w1 sl), ops) ∧ Comes P Goal gs1 w1 sl (t ++ ops)) :
    ∀ (m : Nat) (gs : Array Goroutine) (w : World) (sl : Option (Nat × Nat)) (t : Trace) (q : Nat → Nat) (M : Nat → Nat → Prop), sumTo gs.size q = m → Open P Sh ch Msg k T B M r s #[] gs w t q → SAt k Mk g wS gs w M → RH P Sh ch Msg Fin n r gs w M → gs.size = sz → Comes P Goal gs w sl t := by
  intro m
  induction m using Nat.strongRecOn with
  | _ m ih =>
    intro gs w sl t q M hm O hS hR hsz
    obtain ⟨M0, a, z, hst, h0, hM0⟩ := hR
    obtain ⟨i, x, d, sl', hi, hx, hpick⟩ := crowd_pick (P := P) (w := w) (sl := sl) (O.awake h0 hS.at_ (.inr (.inl rfl)) hg) ⟨k, g, hS.at_, hg⟩
    have O' := O.at hMsg d
    have hR' : ∀ gs1 : Array Goroutine, gs1[0]? = some (parked a #[rcase ch z] (.recv true)) → RH P Sh ch Msg Fin n r gs1 (w.at d) M := fun gs1 h1 => ⟨M0, a, z, fun w1 hk1 => hst w1 ((Keeps.at _ _ _).trans hk1), h1, hM0⟩
    by_cases hik : i = k
    · subst hik
      obtain ⟨gs1, w1, ops, h1, h2⟩ := hK gs (w.at d) sl' t q M O' ⟨hS.keeps.trans (.at _ _ _), hS.at_, hS.own⟩ (hR' gs h0) hsz
      exact .step (hpick.trans h1) h2
    · have hpos : 0 < i := by
        rcases Nat.eq_zero_or_pos i with rfl | h
        · rw [h0] at hi; cases hi; cases hx
        · exact h
      obtain ⟨cap, tm, _, hc⟩ := O'.chan
      obtain ⟨gs1, ops, q', h1, h2, h3, h4, h5, h6⟩ := O'.slip hpos hik hi hx h0 hS.at_ (fun a a' => woken_recv_open a a' hc) (fun a a' => woken_run hg) sl'
      exact .step (hpick.trans h1) (ih _ (by rw [← hm]; exact h3) gs1 _ sl' _ q' M rfl h2 ⟨hS.keeps.trans (.at _ _ _), h6, hS.own⟩ (hR' gs1 h5) (h4.trans hsz))
theorem open_walk {n r : Nat} {buf : Array Value}
    (hK : ∀ (gs : Array Goroutine) (w : World) (sl : Option (Nat × Nat)) (t : Trace) (q : Nat → Nat) (M : Nat → Nat → Prop), Open P Sh ch Msg k T B M r s buf gs w t q → SAt k Mk g wS gs w M → RW P Sh ch Msg Fin n r gs w M → gs.size = sz → ∃ gs1 w1 ops, runT P (crowd gs w sl) k = (.next (crowd gs1 w1 sl), ops) ∧ Comes P Goal gs1 w1 sl (t ++ ops))
    (hH : ∀ (gs : Array Goroutine) (w : World) (sl : Option (Nat × Nat)) (t : Trace) (q : Nat → Nat) (M : Nat → Nat → Prop), buf = #[] → Open P Sh ch Msg k T B M r s buf gs w t q → SAt k Mk g wS gs w M → RH P Sh ch Msg Fin n r gs w M → gs.size = sz → Comes P Goal gs w sl t)
    (hN : ∀ (gs : Array Goroutine) (w : World) (sl : Option (Nat × Nat)) (t : Trace) (q : Nat → Nat) (M : Nat → Nat → Prop) (n' : Nat), n = n' + 1 → 0 < buf.size → Open P Sh ch Msg k T B M (r + 1) s (buf.extract 1 buf.size) gs w t q → SAt k Mk g wS gs w M → RW P Sh ch Msg Fin n' (r + 1) gs w M → gs.size = sz → Comes P Goal gs w sl t)
    (hn : 0 < buf.size → 0 < n) {M0 : Nat → Prop} {a : Goroutine} {wR : World} (hC : Co P true Sh (RStop P Sh ch Msg Fin n r) M0 a wR) :
    ∀ (m : Nat) (gs : Array Goroutine) (w : World) (sl : Option (Nat × Nat)) (t : Trace) (q : Nat → Nat) (M : Nat → Nat → Prop), sumTo gs.size q = m → Open P Sh ch Msg k T B M r s buf gs w t q → SAt k Mk g wS gs w M → Keeps M0 wR w → gs[0]? = some a → (∀ b, M 0 b ↔ M0 b) → gs.size = sz → Comes P Goal gs w sl t := by
  induction hC with
  | @stop M0 a wR h =>
    intro m
    induction m using Nat.strongRecOn with
    | _ m ih =>
      intro gs w sl t q M hm O hS hk h0 hM0 hsz
      have ha := rstop_running n r _ _ _ (h _ (.refl _ _))
      obtain ⟨i, x, d, sl', hi, hx, hpick⟩ := crowd_pick (P := P) (w := w) (sl := sl) (O.awake h0 hS.at_ (.inl ha) hg) ⟨k, g, hS.at_, hg⟩
      have O' := O.at hMsg d
      have hS' : SAt k Mk g wS gs (w.at d) M := ⟨hS.keeps.trans (.at _ _ _), hS.at_, hS.own⟩
      by_cases hik : i = k
      · subst hik
        obtain ⟨gs1, w1, ops, h1, h2⟩ := hK gs (w.at d) sl' t q M O' hS' ⟨M0, a, wR, .stop h, hk.trans (.at _ _ _), h0, hM0⟩ hsz
        exact .step (hpick.trans h1) h2
      rcases Nat.eq_zero_or_pos i with rfl | hpos
      · -- at the receive
        obtain rfl : x = a := by rw [h0] at hi; exact (Option.some.inj hi).symm
        have hlt : 0 < gs.size := (Array.getElem?_eq_some_iff.1 h0).1
        have hcl := O'.lt
        obtain ⟨cap, tm, hcap, hc⟩ := O'.chan
        have hRS := h _ (hk.trans (.at _ _ d))
        by_cases hb : 0 < buf.size
        · obtain ⟨n', rfl⟩ : ∃ n', n = n' + 1 := ⟨n - 1, by have := hn hb; omega⟩
          obtain ⟨fr, cs, z, rfl, hcomm, _, hnext⟩ := hRS
          have hrs : r < s := by have := O.size; omega
          have hk2 : ∀ R : Nat → Prop, ¬ R ch → Keeps R (w.at d) ((w.at d).setChan ch cap (buf.extract 1 buf.size) false s (r + 1) tm) := fun R hR => .chan hR
          have hBr : ∀ b, B r b → b < (w.at d).heap.size ∧ ¬ (Sh b ∨ b = ch) ∧ ∀ g, ¬ M g b := fun b hb => O'.se.apart r b (Nat.le_refl _) hrs hb
          have hco := hnext (buf.getD 0 undef) (B r) _ (hk2 M0 fun x => O.ch0 0 ((hM0 ch).2 x)) (fun b hb => ⟨by rw [chan_size]; exact (hBr b hb).1, fun x => (hBr b hb).2.2 0 ((hM0 b).2 x), fun x => (hBr b hb).2.1 (.inl x)⟩) (hMsg _ _ _ _ _ (O'.msg 0 _ (first_at hb)) (hk2 _ fun x => (hBr ch x).2.1 (.inr rfl)))
          refine .step (hpick.trans (crowd_recv_buf h0 hcomm hc hb (O'.alone hS.at_ hg))) ?_
          rw [ofEvents_nil, Array.empty_append]
          have hk0 : (0 : Nat) ≠ k := fun e => O.hk e.symm
          refine hN _ _ _ _ q (got M (B r)) n' rfl hb ?_ ⟨hS'.keeps.trans (hk2 _ fun x => O.ch0 k ((hS.own ch).2 x)), by rw [Array.getElem?_setIfInBounds_ne hk0]; exact hS.at_, fun b => ?_⟩ ⟨_, _, _, hco, .refl _ _, by simp [hlt], fun b => ?_⟩ (by simpa using hsz)
          · have e : ∀ x y : MemOp, t ++ #[x, y] = (t ++ #[x]) ++ #[y] := fun x y => by rw [Array.append_assoc]; rfl
            refine ⟨?_, ?_, O.al.app (by simp [MemAct.touch?]), fun g hg => ?_, ⟨cap, tm, hcap, chan_self hc _ _ _ _ _ _⟩, by simp; have := O.size; omega, fun j v hv => ?_, (O.leav.set (.inl rfl) _).still (by simp), O.hk⟩
            · rw [e, chan_size]
              refine Owns.recv (O'.ow.quiet (by rfl) (by simp) (by simp) (by exact hcl)) (O'.se.quiet (by simp [MemAct.touch?])) hrs (.inl rfl) rfl rfl hcl
            · rw [chan_size]
              exact O'.se.recv hrs (by simp [MemAct.touch?])
            · rcases hg with hg | ⟨_, hg⟩
              · exact O.ch0 g hg
              · exact (hBr ch hg).2.1 (.inr rfl)
            · have hv' := rest_at buf j v hv
              have hj : r + (j + 1) < s := by
                have := (Array.getElem?_eq_some_iff.1 hv').1
                have := O.size
                omega
              rw [show r + 1 + j = r + (j + 1) by omega]
              exact hMsg _ _ _ _ _ (O'.msg (j + 1) v hv') (hk2 _ fun x => (O.se.apart _ ch (by omega) hj x).2.1 (.inr rfl))
          · show (M k b ∨ (k = 0 ∧ B r b)) ↔ _
            rw [hS.own b]
            exact ⟨fun x => x.elim id fun y => absurd y.1 O.hk, .inl⟩
          · show (M 0 b ∨ (0 = 0 ∧ B r b)) ↔ _
            rw [hM0 b]
            exact ⟨fun x => x.imp id fun y => y.2, fun x => x.imp id fun y => ⟨rfl, y⟩⟩
        · obtain rfl : buf = #[] := Array.size_eq_zero_iff.1 (by omega)
          have hk0 : (0 : Nat) ≠ k := fun e => O.hk e.symm
          have key : ∃ fr cs z, x = G fr cs ∧ stepG P true x (w.at d) = .comm x #[rcase ch z] true (.recv true) (w.at d) #[] := by
            cases n with
            | zero => obtain ⟨fr, cs, z, h1, h2, _⟩ := hRS; exact ⟨fr, cs, z, h1, h2⟩
            | succ n => obtain ⟨fr, cs, z, h1, h2, _⟩ := hRS; exact ⟨fr, cs, z, h1, h2⟩
          obtain ⟨fr, cs, z, rfl, hcomm⟩ := key
          refine .step (hpick.trans (crowd_waits h0 hcomm fun cc hcc => ?_)) ?_
          · obtain rfl : cc = rcase ch z := by simpa using hcc
            exact ways_recv_none hc (O'.alone hS.at_ hg)
          rw [ofEvents_nil, Array.append_empty]
          refine hH _ _ _ _ q M rfl ⟨O'.ow, O'.se, O'.al, O'.ch0, O'.chan, O'.size, O'.msg, O'.leav.set (.inl rfl) _, O'.hk⟩ ⟨hS'.keeps, by rw [Array.getElem?_setIfInBounds_ne hk0]; exact hS.at_, hS.own⟩ ⟨M0, _, z, fun w1 hk1 => h w1 ((hk.trans (.at _ _ _)).trans hk1), by simp [hlt], hM0⟩ (by simpa using hsz)
      · obtain ⟨gs1, ops, q', h1, h2, h3, h4, h5, h6⟩ := O'.slip hpos hik hi hx h0 hS.at_ (fun a a' => woken_run ha) (fun a a' => woken_run hg) sl'
        exact .step (hpick.trans h1) (ih _ (by rw [← hm]; exact h3) gs1 _ sl' _ q' M rfl h2 ⟨hS'.keeps, h6, hS.own⟩ (hk.trans (.at _ _ _)) h5 hM0 (h4.trans hsz))
  | @step M0 a wR ha he h ihC =>
    intro m
    induction m using Nat.strongRecOn with
    | _ m ih =>
      intro gs w sl t q M hm O hS hk h0 hM0 hsz
      obtain ⟨i, x, d, sl', hi, hx, hpick⟩ := crowd_pick (P := P) (w := w) (sl := sl) (O.awake h0 hS.at_ (.inl ha) hg) ⟨k, g, hS.at_, hg⟩
      have O' := O.at hMsg d
      have hS' : SAt k Mk g wS gs (w.at d) M := ⟨hS.keeps.trans (.at _ _ _), hS.at_, hS.own⟩
      by_cases hik : i = k
      · subst hik
        obtain ⟨gs1, w1, ops, h1, h2⟩ := hK gs (w.at d) sl' t q M O' hS' ⟨M0, a, wR, .step ha he h, hk.trans (.at _ _ _), h0, hM0⟩ hsz
        exact .step (hpick.trans h1) h2
      rcases Nat.eq_zero_or_pos i with rfl | hpos
      · obtain rfl : x = a := by rw [h0] at hi; exact (Option.some.inj hi).symm
        have hlt : 0 < gs.size := (Array.getElem?_eq_some_iff.1 h0).1
        have hk0 : (0 : Nat) ≠ k := fun e => O.hk e.symm
        obtain ⟨a1, w1, es, hgo, hG⟩ := he (w.at d) (hk.trans (.at _ _ _))
        have hkk := O'.other hk0 hM0 hS.own hG
        refine .step (hpick.trans (runT_crowd_go hi (show stepG P (0 == 0) x (w.at d) = _ from hgo))) (ihC (w.at d) (hk.trans (.at _ _ _)) a1 w1 es hgo _ _ w1 sl' _ q (owned M 0 (w.at d).heap.size w1.heap.size) rfl (O'.step hMsg (.inl rfl) hlt hM0 hG _ _) ⟨hS'.keeps.trans hkk, ?_, fun b => ?_⟩ (.refl _ _) (by simp [hlt]) (fun b => ?_) (by simpa using hsz))
        · rw [Array.getElem?_setIfInBounds_ne hk0, Array.getElem?_map, hS.at_]
          simp [woken_run hg]
        · show (M k b ∨ (k = 0 ∧ _)) ↔ _
          rw [hS.own b]
          exact ⟨fun x => x.elim id fun y => absurd y.1 O.hk, .inl⟩
        · show (M 0 b ∨ _) ↔ _
          rw [hM0 b]
          exact ⟨fun x => x.imp id fun y => y.2, fun x => x.imp id fun y => ⟨rfl, y⟩⟩
      · obtain ⟨gs1, ops, q', h1, h2, h3, h4, h5, h6⟩ := O'.slip hpos hik hi hx h0 hS.at_ (fun a a' => woken_run ha) (fun a a' => woken_run hg) sl'
        exact .step (hpick.trans h1) (ih _ (by rw [← hm]; exact h3) gs1 _ sl' _ q' M rfl h2 ⟨hS'.keeps, h6, hS.own⟩ (hk.trans (.at _ _ _)) h5 hM0 (h4.trans hsz))
end
theorem Owns.peek {Z Act : Nat → Prop} {M : Nat → Nat → Prop} {n : Nat} {t : Trace} (h : Owns Z Act M n t) {y : MemOp} {a : Touch} {c : Nat} (hg : Act y.g) (hy : y.act.touch? = some a) (hc : blk a.loc = some c) (hz : Z c) (hw : a.write = false) (hd : y.act ≠ .mark .disable) (he : y.act ≠ .mark .enable) (hl : y.act.low n) : Owns Z Act M n (t ++ #[y]) := by
  have hu : ∀ op ∈ (#[y] : Trace), op = y := fun op hop => by simpa using hop
  have old : ∀ {i x b}, touchAt (t ++ #[y]) i = some x → blk x.loc = some b → (¬ Z b ∨ x.write = true) → touchAt t i = some x := fun {i x b} ha hb hor => by
    obtain ⟨op, hop, hoa⟩ := touch_of ha
    rcases getElem?_append_cases hop with ⟨hi, hop'⟩ | ⟨_, hopu⟩
    · rw [touchAt_of hop']; exact hoa
    · rw [hu op hopu, hy] at hoa
      cases hoa
      rw [hc] at hb
      cases hb
      rcases hor with h1 | h1
      · exact absurd hz h1
      · rw [hw] at h1; cases h1
  refine ⟨fun said => noRace_append (g := y.g) (h.clean said) (fun op hop => by rw [hu op hop]) fun i x hx op hop b hb hcf => ?_, fun g i x b hga hx hb hm hzb => (h.mine g i x b hga (old hx hb (.inl hzb)) hb hm hzb).app _, fun g i x b hga hx hb hzb hwx => (h.still g i x b hga (old hx hb (.inr hwx)) hb hzb hwx).app _, h.disj, h.bound, fun op hop => ?_, fun g hga => ?_⟩
  · rw [hu op hop, hy] at hb
    cases hb
    refine h.still y.g i x c hg hx (by rw [hcf.1]; exact hc) hz ?_
    rcases hcf.2.2.1 with h1 | h1
    · exact h1
    · rw [hw] at h1; cases h1
  · rcases Array.mem_append.1 hop with h1 | h1
    · exact h.low op h1
    · rw [hu op h1]; exact hl
  · rw [Deaf_push]
    unfold deafStep
    split
    · exact absurd ‹_› hd
    · exact absurd ‹_› he
    · exact h.hears g hga
section
variable {P : Program} {Sh : Nat → Prop} {ch : Nat} {Msg : Nat → Value → (Nat → Prop) → World → Prop} {Fin : (Nat → Prop) → Goroutine → World → Prop} {k T s : Nat} {sz : Nat} {Mk : Nat → Prop} {g : Goroutine} {wS : World}
def Node (P : Program) (Sh : Nat → Prop) (ch : Nat) (Msg : Nat → Value → (Nat → Prop) → World → Prop) (Fin : (Nat → Prop) → Goroutine → World → Prop) (k T sz s : Nat) (Mk : Nat → Prop) (g : Goroutine) (wS : World) : Prop :=
  ∀ (B : Nat → Nat → Prop) (n r : Nat) (buf : Array Value) (gs : Array Goroutine) (w : World) (sl : Option (Nat × Nat)) (t : Trace) (q : Nat → Nat) (M : Nat → Nat → Prop), n + r = T → Open P Sh ch Msg k T B M r s buf gs w t q → SAt k Mk g wS gs w M → (RW P Sh ch Msg Fin n r gs w M ∨ (buf = #[] ∧ RH P Sh ch Msg Fin n r gs w M)) → gs.size = sz → Comes P (Arrived P Fin sz) gs w sl t
def KGo (P : Program) (Sh : Nat → Prop) (ch : Nat) (Msg : Nat → Value → (Nat → Prop) → World → Prop) (Fin : (Nat → Prop) → Goroutine → World → Prop) (k T sz s : Nat) (Mk : Nat → Prop) (g : Goroutine) (wS : World) : Prop :=
  ∀ (B : Nat → Nat → Prop) (n r : Nat) (buf : Array Value) (gs : Array Goroutine) (w : World) (sl : Option (Nat × Nat)) (t : Trace) (q : Nat → Nat) (M : Nat → Nat → Prop), n + r = T → Open P Sh ch Msg k T B M r s buf gs w t q → SAt k Mk g wS gs w M → (RW P Sh ch Msg Fin n r gs w M ∨ (buf = #[] ∧ RH P Sh ch Msg Fin n r gs w M)) → gs.size = sz → ∃ gs1 w1 ops, runT P (crowd gs w sl) k = (.next (crowd gs1 w1 sl), ops) ∧ Comes P (Arrived P Fin sz) gs1 w1 sl (t ++ ops)
variable (hMsg : ∀ m v N w w1, Msg m v N w → Keeps N w w1 → Msg m v N w1)
include hMsg
theorem open_node (hg : g.status = .running) (hs : s ≤ T) (hK : KGo P Sh ch Msg Fin k T sz s Mk g wS) : Node P Sh ch Msg Fin k T sz s Mk g wS := by
  intro B n
  induction n with
  | zero =>
    intro r buf gs w sl t q M hn O hS hR hsz
    have held : ∀ (gs : Array Goroutine) (w : World) (sl : Option (Nat × Nat)) (t : Trace) (q : Nat → Nat) (M : Nat → Nat → Prop), Open P Sh ch Msg k T B M r s #[] gs w t q → SAt k Mk g wS gs w M → RH P Sh ch Msg Fin 0 r gs w M → gs.size = sz → Comes P (Arrived P Fin sz) gs w sl t := fun gs w sl t q M O hS hR hsz =>
      open_held hMsg hg (fun gs w sl t q M O hS hR hsz => hK B 0 r #[] gs w sl t q M hn O hS (.inr ⟨rfl, hR⟩) hsz) _ gs w sl t q M rfl O hS hR hsz
    rcases hR with hR | ⟨rfl, hR⟩
    · obtain ⟨M0, a, wR, hC, hk, h0, hM0⟩ := hR
      exact open_walk hMsg hg (fun gs w sl t q M O hS hR hsz => hK B 0 r buf gs w sl t q M hn O hS (.inl hR) hsz) (fun gs w sl t q M hb O hS hR hsz => held gs w sl t q M (hb ▸ O) hS hR hsz) (fun gs w sl t q M n' hn' => by omega) (fun hb => by have := O.size; omega) hC _ gs w sl t q M rfl O hS hk h0 hM0 hsz
    · exact held gs w sl t q M O hS hR hsz
  | succ n ih =>
    intro r buf gs w sl t q M hn O hS hR hsz
    have held : ∀ (gs : Array Goroutine) (w : World) (sl : Option (Nat × Nat)) (t : Trace) (q : Nat → Nat) (M : Nat → Nat → Prop), Open P Sh ch Msg k T B M r s #[] gs w t q → SAt k Mk g wS gs w M → RH P Sh ch Msg Fin (n + 1) r gs w M → gs.size = sz → Comes P (Arrived P Fin sz) gs w sl t := fun gs w sl t q M O hS hR hsz =>
      open_held hMsg hg (fun gs w sl t q M O hS hR hsz => hK B (n + 1) r #[] gs w sl t q M hn O hS (.inr ⟨rfl, hR⟩) hsz) _ gs w sl t q M rfl O hS hR hsz
    rcases hR with hR | ⟨rfl, hR⟩
    · obtain ⟨M0, a, wR, hC, hk, h0, hM0⟩ := hR
      exact open_walk hMsg hg (fun gs w sl t q M O hS hR hsz => hK B (n + 1) r buf gs w sl t q M hn O hS (.inl hR) hsz) (fun gs w sl t q M hb O hS hR hsz => held gs w sl t q M (hb ▸ O) hS hR hsz) (fun gs w sl t q M n' hn' _ O hS hR hsz => ih (r + 1) _ gs w sl t q M (by omega) O hS (.inl (by rw [show n = n' from (by omega)]; exact hR)) hsz) (fun _ => by omega) hC _ gs w sl t q M rfl O hS hk h0 hM0 hsz
    · exact held gs w sl t q M O hS hR hsz
theorem k_step (he : ∀ w1, Keeps Mk wS w1 → ∃ g' w' es, stepG P false g w1 = .go g' w' es ∧ Guar Sh Mk w1 w' es) (hN : ∀ w1, Keeps Mk wS w1 → ∀ g' w' es, stepG P false g w1 = .go g' w' es → Node P Sh ch Msg Fin k T sz s (grown Mk w1 w') g' w') : KGo P Sh ch Msg Fin k T sz s Mk g wS := by
  intro B n r buf gs w sl t q M hn O hS hR hsz
  obtain ⟨g1, w1, es, hgo, hG⟩ := he w hS.keeps
  have hlt : k < gs.size := (Array.getElem?_eq_some_iff.1 hS.at_).1
  have hb : (k == 0) = false := by simp [O.hk]
  have O1 := O.step (g := g) (g' := g1) hMsg (.inr rfl) hlt hS.own hG g.frame.fn g.frame.place
  refine ⟨_, _, _, runT_crowd_go hS.at_ (by rw [hb]; exact hgo), hN w hS.keeps g1 w1 es hgo B n r buf _ w1 sl _ q (owned M k w.heap.size w1.heap.size) hn O1 ⟨.refl _ _, by simp [hlt], fun b => ?_⟩ ?_ (by simpa using hsz)⟩
  · show (M k b ∨ _) ↔ _
    rw [hS.own b]
    exact ⟨fun x => x.imp id fun y => y.2, fun x => x.imp id fun y => ⟨rfl, y⟩⟩
  · have h0own : ∀ {M0 : Nat → Prop}, (∀ b, M 0 b ↔ M0 b) → ∀ b, owned M k w.heap.size w1.heap.size 0 b ↔ M0 b := fun {M0} hM0 b => by
      show (M 0 b ∨ (0 = k ∧ _)) ↔ _
      rw [hM0 b]
      exact ⟨fun x => x.elim id fun y => absurd y.1.symm O.hk, .inl⟩
    rcases hR with ⟨M0, a, wR, hC, hk, h0, hM0⟩ | ⟨rfl, M0, a, z, hst, h0, hM0⟩
    · refine .inl ⟨M0, a, wR, hC, hk.trans (O.other O.hk hS.own hM0 hG), ?_, h0own hM0⟩
      rw [Array.getElem?_setIfInBounds_ne O.hk, Array.getElem?_map, h0]
      simp [woken_run (hC.running (rstop_running n r))]
    · refine .inr ⟨rfl, M0, a, z, fun w2 hk2 => hst w2 ((O.other O.hk hS.own hM0 hG).trans hk2), ?_, h0own hM0⟩
      obtain ⟨cap, tm, _, hc⟩ := O1.chan
      rw [Array.getElem?_setIfInBounds_ne O.hk, Array.getElem?_map, h0]
      simp [woken_recv_open _ _ hc]
theorem k_send {nS : Nat} (hT : nS + 1 + s = T) (hst : ∀ w1, Keeps Mk wS w1 → SStop P Sh ch Msg (nS + 1) s Mk g w1) (hN : ∀ Mk g wS, Co P false Sh (SStop P Sh ch Msg nS (s + 1)) Mk g wS → Node P Sh ch Msg Fin k T sz (s + 1) Mk g wS) : KGo P Sh ch Msg Fin k T sz s Mk g wS := by
  intro B n r buf gs w sl t q M hn O hS hR hsz
  obtain ⟨fr, cs, v, z, N, rfl, hcomm, hNM, hmsg, hnext⟩ := hst w hS.keeps
  obtain ⟨cap, tm, hcap, hc⟩ := O.chan
  have hlt : k < gs.size := (Array.getElem?_eq_some_iff.1 hS.at_).1
  have hb : (k == 0) = false := by simp [O.hk]
  have hcl := O.lt
  have hNb : ∀ b, N b → M k b ∧ ¬ (Sh b ∨ b = ch) := fun b hb => by
    have h1 := (hS.own b).2 (hNM b hb).1
    refine ⟨h1, fun hz => hz.elim (hNM b hb).2 fun e => O.ch0 k (e ▸ h1)⟩
  have hN0 : ∀ b, N b → ¬ M 0 b := fun b hb h0 => O.hk (O.ow.disj k 0 b (hNb b hb).1 h0 (hNb b hb).2)
  have hch : ∀ {R : Nat → Prop} {buf' : Array Value} {s' r' : Nat}, ¬ R ch → Keeps R w (w.setChan ch cap buf' false s' r' tm) := fun hR => .chan hR
  have hMkc : ¬ Mk ch := fun x => O.ch0 k ((hS.own ch).2 x)
  have e2 : ∀ x y : MemOp, t ++ #[x, y] = (t ++ #[x]) ++ #[y] := fun x y => by rw [Array.append_assoc]; rfl
  have e4 : ∀ x y z u : MemOp, t ++ #[x, y, z, u] = (((t ++ #[x]) ++ #[y]) ++ #[z]) ++ #[u] := fun x y z u => by simp only [Array.append_assoc]; rfl
  have hrs : r ≤ s := by have := O.size; omega
  rcases hR with ⟨M0, a, wR, hC, hk, h0, hM0⟩ | ⟨rfl, M0, a, zz, hst0, h0, hM0⟩
  · -- the receiver is on its way
    have ha := hC.running (rstop_running n r)
    have hp : partners (gs.setIfInBounds k ph) ch false = [] := partners_nil fun j x hx => by
      rcases getElem?_stand gs k j x hx with ⟨_, rfl⟩ | ⟨hj, hx'⟩
      · exact offersAt_ph ch false
      · rcases Nat.eq_zero_or_pos j with rfl | hpos
        · rw [h0] at hx'
          cases hx'
          exact offersAt_of_not_blocked (by rw [ha]; simp) ch false
        · exact O.leav.free hpos hj hx' ch false
    refine ⟨_, _, _, crowd_send_room hS.at_ (by rw [hb]; exact hcomm) hc (by have := O.size; omega) hp, ?_⟩
    rw [ofEvents_nil, Array.empty_append]
    refine hN _ _ _ (hnext _ (hch fun x => hMkc x.1)) (fun m b => if m = s then N b else B m b) n r (buf.push v) _ _ sl _ q (given M N) hn ?_ ⟨.refl _ _, by simp [hlt], fun b => ?_⟩ (.inl ⟨M0, a, wR, hC, hk.trans (hch fun x => O.ch0 0 ((hM0 ch).2 x)), by rw [Array.getElem?_setIfInBounds_ne O.hk]; exact h0, fun b => ?_⟩) (by simpa using hsz)
    · refine ⟨?_, ?_, O.al.app (by simp [MemAct.touch?]), fun g' hg' => O.ch0 g' hg'.1, ⟨cap, tm, hcap, chan_self hc _ _ _ _ _ _⟩, by simp; have := O.size; omega, fun j x hx => ?_, (O.leav.set (.inr rfl) _).still (by simp), O.hk⟩
      · rw [e2, chan_size]
        exact ((O.ow.less (fun _ _ x => x.1) fun _ x => x).quiet (by rfl) (by simp) (by simp) (by exact hcl)).quiet (by rfl) (by simp) (by simp) (by exact hcl)
      · rw [e2, chan_size]
        exact (O.se.send O.ow (.inr rfl) hNb hrs rfl rfl).quiet (by simp [MemAct.touch?])
      · by_cases hj : j < buf.size
        · rw [Array.getElem?_push_lt hj] at hx
          have hne : ¬ r + j = s := by have := O.size; omega
          simp only [hne, if_false]
          have hx' : buf[j]? = some x := by rw [Array.getElem?_eq_getElem hj]; exact hx
          exact hMsg _ _ _ _ _ (O.msg j x hx') (hch fun y => (O.se.apart (r + j) ch (by omega) (by have := O.size; omega) y).2.1 (.inr rfl))
        · have hj' : j = buf.size := by
            have := (Array.getElem?_eq_some_iff.1 hx).1
            simp at this
            omega
          subst hj'
          rw [Array.getElem?_push_size] at hx
          cases hx
          have heq : r + buf.size = s := O.size
          simp only [heq, if_true]
          exact hMsg _ _ _ _ _ hmsg (hch fun y => (hNb ch y).2 (.inr rfl))
    · show (M k b ∧ ¬ N b) ↔ _
      rw [hS.own b]
    · show (M 0 b ∧ ¬ N b) ↔ _
      rw [hM0 b]
      exact ⟨fun x => x.1, fun x => ⟨x, fun y => hN0 b y ((hM0 b).2 x)⟩⟩
  · -- the receiver waits
    have hrs' : r = s := by have := O.size; simpa using this
    subst hrs'
    obtain ⟨n', rfl⟩ : ∃ n', n = n' + 1 := ⟨n - 1, by omega⟩
    have hp : partners (gs.setIfInBounds k ph) ch false = [(0, 0)] := by
      rw [partners_one (stand_get (i := k) (fun e => O.hk e.symm) h0) fun j x hj hx => ?_, offersAt_parked_recv, if_pos rfl]
      · rfl
      · rcases getElem?_stand gs k j x hx with ⟨_, rfl⟩ | ⟨hj', hx'⟩
        · exact offersAt_ph ch false
        · exact O.leav.free (by omega) hj' hx' ch false
    have h0lt : 0 < gs.size := (Array.getElem?_eq_some_iff.1 h0).1
    refine ⟨_, _, _, crowd_send_meets hS.at_ (by rw [hb]; exact hcomm) hc (fun e => O.hk e.symm) h0 hp, ?_⟩
    rw [ofEvents_nil, Array.empty_append]
    obtain ⟨fr0, cs0, z0, rfl, _, _, hnx⟩ := hst0 _ (hch (R := M0) (buf' := #[]) (s' := r + 1) (r' := r + 1) fun x => O.ch0 0 ((hM0 ch).2 x))
    have hco := hnx v N _ (.refl _ _) (fun b hb => ⟨by rw [chan_size]; exact O.ow.bound k b (hNb b hb).1, fun x => hN0 b hb ((hM0 b).2 x), (hNM b hb).2⟩) (hMsg _ _ _ _ _ hmsg (hch fun y => (hNb ch y).2 (.inr rfl)))
    have hBr : (fun b => if r = r then N b else B r b) = N := by funext b; simp
    refine hN _ _ _ (hnext _ (hch fun x => hMkc x.1)) (fun m b => if m = r then N b else B m b) n' (r + 1) #[] _ _ sl _ q (got (given M N) fun b => if r = r then N b else B r b) (by omega) ?_ ⟨.refl _ _, by simp [hlt], fun b => ?_⟩ (.inl ⟨_, _, _, hco, .refl _ _, ?_, fun b => ?_⟩) (by simpa using hsz)
    · have hse1 := O.se.send (y := { g := k, fn := (G fr cs).frame.fn, pos := (G fr cs).frame.place, act := .send ch r }) O.ow (.inr rfl) hNb hrs rfl rfl
      refine ⟨?_, ?_, O.al.app (by simp [MemAct.touch?]), fun g' hg' => ?_, ⟨cap, tm, hcap, chan_self hc _ _ _ _ _ _⟩, by simp, fun j x hx => by simp at hx, ((O.leav.set (.inl rfl) _).set (.inr rfl) _).still (by simp), O.hk⟩
      · rw [e4, chan_size]
        exact Owns.recv ((((O.ow.less (fun _ _ x => x.1) fun _ x => x).quiet (by rfl) (by simp) (by simp) (by exact hcl)).quiet (by rfl) (by simp) (by simp) (by exact hcl)).quiet (by rfl) (by simp) (by simp) (by exact hcl)) ((hse1.quiet (by simp [MemAct.touch?])).quiet (by simp [MemAct.touch?])) (Nat.lt_succ_self r) (.inl rfl) rfl rfl hcl
      · rw [e4, chan_size]
        exact ((hse1.quiet (by simp [MemAct.touch?])).quiet (by simp [MemAct.touch?])).recv (Nat.lt_succ_self r) (by simp [MemAct.touch?])
      · rcases hg' with hg' | ⟨_, hg'⟩
        · exact O.ch0 g' hg'.1
        · exact (hNb ch (by simpa using hg')).2 (.inr rfl)
    · show ((M k b ∧ ¬ N b) ∨ (k = 0 ∧ _)) ↔ _
      rw [hS.own b]
      exact ⟨fun x => x.elim id fun y => absurd y.1 O.hk, .inl⟩
    · rw [Array.getElem?_setIfInBounds_ne O.hk]
      simp [h0lt]
      rfl
    · show ((M 0 b ∧ ¬ N b) ∨ (0 = 0 ∧ _)) ↔ _
      rw [hM0 b]
      constructor
      · rintro (x | ⟨_, x⟩)
        · exact .inl x.1
        · exact .inr (by simpa using x)
      · rintro (x | x)
        · exact .inl ⟨x, fun y => hN0 b y ((hM0 b).2 x)⟩
        · exact .inr ⟨rfl, by simpa using x⟩
end
section
variable {P : Program} {Sh : Nat → Prop} {ch : Nat} {Msg : Nat → Value → (Nat → Prop) → World → Prop} {Fin : (Nat → Prop) → Goroutine → World → Prop} {k T s : Nat} {sz : Nat} {Mk : Nat → Prop} {g : Goroutine} {wS : World}
variable (hMsg : ∀ m v N w w1, Msg m v N w → Keeps N w w1 → Msg m v N w1)
include hMsg
theorem k_close (hT : s = T) (hst : ∀ w1, Keeps Mk wS w1 → SStop P Sh ch Msg 0 s Mk g w1) : KGo P Sh ch Msg Fin k T sz s Mk g wS := by
  intro B n r buf gs w sl t q M hn O hS hR hsz
  subst hT
  obtain ⟨fr, cs, rfl, hmay, hcl⟩ := hst w hS.keeps
  obtain ⟨cap, tm, hcap, hc⟩ := O.chan
  obtain ⟨g1, qk, hgo, hq⟩ := hcl cap buf s r tm hc
  have hlt : k < gs.size := (Array.getElem?_eq_some_iff.1 hS.at_).1
  have hb : (k == 0) = false := by simp [O.hk]
  have hlow := O.lt
  have hch : ∀ {R : Nat → Prop}, ¬ R ch → Keeps R w (w.setChan ch cap buf true s r tm) := fun hR => .chan hR
  have hops : MemOp.ofEvents k (G fr cs).frame.fn (G fr cs).frame.place #[⟨.obj ch, false, true⟩, ⟨.obj ch, true, true⟩] = #[{ g := k, fn := (G fr cs).frame.fn, pos := (G fr cs).frame.place, act := .access ⟨.obj ch, false, true⟩ }, { g := k, fn := (G fr cs).frame.fn, pos := (G fr cs).frame.place, act := .close ch }] := by
    simp [ofEvents_eq, MemAct.ofEvent]
  have e2 : ∀ x y : MemOp, t ++ #[x, y] = (t ++ #[x]) ++ #[y] := fun x y => by rw [Array.append_assoc]; rfl
  have hrun := runT_crowd_go (P := P) (sl := sl) hS.at_ (show stepG P (k == 0) (G fr cs) w = _ by rw [hb]; exact hgo)
  refine ⟨_, _, _, hrun, ?_⟩
  rw [hops]
  have S : Shut P Sh ch Msg k s B M r buf ((gs.map (woken P (G fr cs) g1 (w.setChan ch cap buf true s r tm))).setIfInBounds k g1) (w.setChan ch cap buf true s r tm) (t ++ #[{ g := k, fn := (G fr cs).frame.fn, pos := (G fr cs).frame.place, act := .access ⟨.obj ch, false, true⟩ }, { g := k, fn := (G fr cs).frame.fn, pos := (G fr cs).frame.place, act := .close ch }]) (upd q k qk) := by
    have hP1 := O.ow.peek (y := { g := k, fn := (G fr cs).frame.fn, pos := (G fr cs).frame.place, act := .access ⟨.obj ch, false, true⟩ }) (a := ⟨.obj ch, false, .atomic⟩) (c := ch) (.inr rfl) rfl rfl (.inr rfl) rfl (by simp) (by simp) (by exact hlow)
    refine ⟨?_, ?_, ⟨t.size + 1, ?_⟩, O.ch0, ⟨cap, tm, chan_self hc _ _ _ _ _ _⟩, O.size, fun j v hv => hMsg _ _ _ _ _ (O.msg j v hv) (hch fun x => ?_), ⟨fun j x hj hj0 hx => ?_, fun j hj => ?_⟩⟩
    · rw [e2, chan_size]
      exact (hP1.quiet (by rfl) (by simp) (by simp) (by exact hlow)).less (fun _ _ x => x) fun _ x => .inl x
    · rw [chan_size]
      refine O.se.app (fun op hop a b ha hb m h1 h2 hB => ?_) (Nat.le_refl _) fun m b h1 h2 hB => (O.se.apart m b h1 h2 hB).2.2
      have hop' : op = { g := k, fn := (G fr cs).frame.fn, pos := (G fr cs).frame.place, act := .access ⟨.obj ch, false, true⟩ } ∨ op = { g := k, fn := (G fr cs).frame.fn, pos := (G fr cs).frame.place, act := .close ch } := by simpa using hop
      rcases hop' with rfl | rfl
      · cases ha
        cases hb
        exact (O.se.apart m ch h1 h2 hB).2.1 (.inr rfl)
      · cases ha
    · rw [e2]
      have := AllK.close (ch := ch) (y := { g := k, fn := (G fr cs).frame.fn, pos := (G fr cs).frame.place, act := .close ch }) (O.al.app (u := #[{ g := k, fn := (G fr cs).frame.fn, pos := (G fr cs).frame.place, act := .access ⟨.obj ch, false, true⟩ }]) (by simp)) (hP1.hears k (.inr rfl)) rfl rfl
      simpa using this
    · have hj : r + j < s := by
        have := (Array.getElem?_eq_some_iff.1 hv).1
        have := O.size
        omega
      exact (O.se.apart (r + j) ch (by omega) hj x).2.1 (.inr rfl)
    · rw [Deaf_still _ _ _ (by simp)]
      by_cases hjk : k = j
      · subst hjk
        rw [Array.getElem?_setIfInBounds_self_of_lt (by simpa using hlt)] at hx
        obtain rfl := Option.some.inj hx
        rw [upd_same, O.ow.hears k (.inr rfl)]
        exact hq
      · rw [Array.getElem?_setIfInBounds_ne hjk, Array.getElem?_map] at hx
        obtain ⟨y, hy, rfl⟩ := Option.map_eq_some_iff.1 hx
        have hqj := O.leav.old j y hj (fun e => hjk e.symm) hy
        rw [woken_quitsD hqj, upd_ne q qk (Ne.symm hjk)]
        exact hqj
    · rw [Deaf_still _ _ _ (by simp)]
      exact O.leav.above j (by simpa using hj)
  rcases hR with ⟨M0, a, wR, hC, hk, h0, hM0⟩ | ⟨rfl, M0, a, z, hst0, h0, hM0⟩
  · have ha := hC.running (rstop_running n r)
    refine shut_run hMsg n r buf M0 a wR (by omega) hC _ a _ sl _ _ M (hk.trans (hch fun x => O.ch0 0 ((hM0 ch).2 x))) ?_ ha (fun _ => rfl) hM0 S (by simpa using hsz)
    rw [Array.getElem?_setIfInBounds_ne O.hk, Array.getElem?_map, h0]
    simp [woken_run ha]
  · have key : ∃ fr0 cs0, a = G fr0 cs0 := by
      have := hst0 w (.refl _ _)
      cases n with
      | zero => obtain ⟨fr0, cs0, _, h1, _⟩ := this; exact ⟨fr0, cs0, h1⟩
      | succ n => obtain ⟨fr0, cs0, _, h1, _⟩ := this; exact ⟨fr0, cs0, h1⟩
    obtain ⟨fr0, cs0, rfl⟩ := key
    refine shut_run hMsg n r #[] M0 (G fr0 cs0) w (by omega) (.stop hst0) _ { parked (G fr0 cs0) #[rcase ch z] (.recv true) with status := .running } _ sl _ _ M (hch fun x => O.ch0 0 ((hM0 ch).2 x)) ?_ rfl (fun w1 => (stepG_tries true #[rcase ch z] w1).trans rfl) hM0 S (by simpa using hsz)
    rw [Array.getElem?_setIfInBounds_ne O.hk, Array.getElem?_map, h0]
    have hw : woken P (G fr cs) g1 (w.setChan ch cap #[] true s r tm) (parked (G fr0 cs0) #[rcase ch z] (.recv true)) = { parked (G fr0 cs0) #[rcase ch z] (.recv true) with status := .running } := by
      unfold woken
      rw [if_pos]
      · exact again_recv_closed (chan_self hc _ _ _ _ _ _)
      · rcases hq.status with h1 | h1 <;> rw [hmay, h1] <;> rfl
    simp [hw]
theorem node_all (nS : Nat) : ∀ (s : Nat) (Mk : Nat → Prop) (g : Goroutine) (wS : World), nS + s = T → Co P false Sh (SStop P Sh ch Msg nS s) Mk g wS → Node P Sh ch Msg Fin k T sz s Mk g wS := by
  induction nS with
  | zero =>
    intro s Mk g wS hT hC
    induction hC with
    | stop h => exact open_node hMsg (sstop_running 0 s _ _ _ (h _ (.refl _ _))) (by omega) (k_close hMsg (by omega) h)
    | step hr he _ ih => exact open_node hMsg hr (by omega) (k_step hMsg he ih)
  | succ nS ihn =>
    intro s Mk g wS hT hC
    induction hC with
    | stop h => exact open_node hMsg (sstop_running (nS + 1) s _ _ _ (h _ (.refl _ _))) (by omega) (k_send hMsg (by omega) h fun Mk g wS hC => ihn (s + 1) Mk g wS (by omega) hC)
    | step hr he _ ih => exact open_node hMsg hr (by omega) (k_step hMsg he ih)
end
/-! ### the begin -/
section
variable {Z : Nat → Prop} {M : Nat → Nat → Prop} {k n : Nat} {t : Trace}
theorem owns_spawn (h : Past (fun _ => False) n t) (hd : Deaf t k = 0) {x y : MemOp} (hx : x.g = 0) (hxa : x.act = .go k) (hy : y.g = k) (hya : y.act = .start) (disj : ∀ g h b, M g b → M h b → ¬ Z b → g = h) (bound : ∀ g b, M g b → b < n) :
    Owns Z (fun g => g = 0 ∨ g = k) M n ((t ++ #[x]) ++ #[y]) ∧ AllK k ((t ++ #[x]) ++ #[y]) := by
  have h0 := Owns.of_past (Z := Z) h (fun _ => False) (fun _ x => x.elim)
  have hq := (h0.quiet (y := x) (by rw [hxa]; rfl) (by rw [hxa]; simp) (by rw [hxa]; simp) (by rw [hxa]; trivial)).quiet (y := y) (by rw [hya]; rfl) (by rw [hya]; simp) (by rw [hya]; simp) (by rw [hya]; trivial)
  have old : ∀ {i a}, touchAt ((t ++ #[x]) ++ #[y]) i = some a → touchAt t i = some a := fun {i a} ha => by
    obtain ⟨op, hop, hoa⟩ := touch_of ha
    rcases getElem?_append_cases hop with ⟨hi, hop'⟩ | ⟨_, hopu⟩
    · rcases getElem?_append_cases hop' with ⟨hi', hop''⟩ | ⟨_, hopu⟩
      · rw [touchAt_of hop'']; exact hoa
      · rw [show op = x by simpa using hopu, hxa] at hoa; cases hoa
    · rw [show op = y by simpa using hopu, hya] at hoa; cases hoa
  have kn0 : ∀ i a, touchAt ((t ++ #[x]) ++ #[y]) i = some a → a.loc.isMemory = true → Knows ((t ++ #[x]) ++ #[y]) 0 i := fun i a ha hm => (((h.known i a (old ha) hm).resolve_right fun x => x.1).app _).app _
  have hx' : ((t ++ #[x]) ++ #[y])[t.size]? = some x := by rw [getElem?_append_old (by simp)]; exact last_at t x
  have hy' : ((t ++ #[x]) ++ #[y])[(t ++ #[x]).size]? = some y := last_at _ y
  have knk : ∀ i a, touchAt ((t ++ #[x]) ++ #[y]) i = some a → a.loc.isMemory = true → Knows ((t ++ #[x]) ++ #[y]) k i := fun i a ha hm => by
    have h1 : HappensBefore (t ++ #[x]) i t.size := ((h.known i a (old ha) hm).resolve_right fun x => x.1).hb_new (Nat.le_refl _) (last_at t x) hx
    refine ⟨(t ++ #[x]).size, y, hy', hy, .inr ((hb_app #[y] h1).trans (.single (.inr ⟨.spawn (child := k) (by rw [act?_of hx', hxa]) (by rw [act?_of hy', hya]) (by simp only [Trace.g?, hy', Option.map_some, hy]), heard_app #[y] (heard_last (by rw [hx]; exact h.hears)), heard_last (by rw [hy, Deaf_still _ _ _ (by simp [hxa])]; exact hd)⟩)))⟩
  refine ⟨⟨hq.clean, fun g i a b hg ha hb _ _ => ?_, fun g i a b hg ha hb _ _ => ?_, disj, bound, hq.low, fun g hg => ?_⟩, fun i a ha hm => .inl (kn0 i a ha hm)⟩
  · rcases hg with rfl | rfl
    · exact kn0 i a ha (blk_memory.2 ⟨b, hb⟩)
    · exact knk i a ha (blk_memory.2 ⟨b, hb⟩)
  · rcases hg with rfl | rfl
    · exact kn0 i a ha (blk_memory.2 ⟨b, hb⟩)
    · exact knk i a ha (blk_memory.2 ⟨b, hb⟩)
  · rcases hg with rfl | rfl
    · exact hq.hears 0 rfl
    · rw [Deaf_still _ _ _ (by simp [hya]), Deaf_still _ _ _ (by simp [hxa])]
      exact hd
end
section
variable {P : Program} {Sh : Nat → Prop} {ch : Nat} {Msg : Nat → Value → (Nat → Prop) → World → Prop} {Fin : (Nat → Prop) → Goroutine → World → Prop} {T cap : Nat} {tm : Bool} {M0 Mk : Nat → Prop} {gs : Array Goroutine} {w : World} {sl : Option (Nat × Nat)} {t : Trace} {q : Nat → Nat} {a a1 child : Goroutine}
theorem company (hMsg : ∀ m v N w w1, Msg m v N w → Keeps N w w1 → Msg m v N w1) (h0 : gs[0]? = some a) (hgo : stepG P true a w = .spawn a1 child w #[]) (hL : LeavX P 0 t gs q) (hP : Past (fun _ => False) w.heap.size t)
    (hc : w.heap[ch]? = some (.chan cap #[] false 0 0 tm)) (hcap : T ≤ cap) (hM0 : ∀ b, M0 b → b < w.heap.size ∧ b ≠ ch) (hMk : ∀ b, Mk b → b < w.heap.size ∧ b ≠ ch) (hd : ∀ b, M0 b → Mk b → Sh b)
    (hR : Co P true Sh (RStop P Sh ch Msg Fin T 0) M0 a1 w) (hS : Co P false Sh (SStop P Sh ch Msg T 0) Mk child w) :
    ∃ gs1 ops, runT P (crowd gs w sl) 0 = (.next (crowd gs1 w sl), ops) ∧ Comes P (Arrived P Fin (gs.size + 1)) gs1 w sl (t ++ ops) := by
  have hlt : 0 < gs.size := (Array.getElem?_eq_some_iff.1 h0).1
  have hk : gs.size ≠ 0 := by omega
  refine ⟨_, _, runT_crowd_spawn h0 (show stepG P (0 == 0) a w = _ from hgo), ?_⟩
  rw [ofEvents_nil]
  have e : ∀ x y : MemOp, t ++ ((#[] : Array MemOp).push x).push y = (t ++ #[x]) ++ #[y] := fun x y => by rw [Array.append_assoc]; rfl
  rw [e]
  obtain ⟨M, hMdef⟩ : ∃ M : Nat → Nat → Prop, M = fun g b => (g = 0 ∧ M0 b) ∨ (g = gs.size ∧ Mk b) := ⟨_, rfl⟩
  have hM0' : ∀ b, M 0 b ↔ M0 b := fun b => by
    rw [hMdef]
    exact ⟨fun x => x.elim (fun y => y.2) fun y => absurd y.1.symm hk, fun x => .inl ⟨rfl, x⟩⟩
  have hMk' : ∀ b, M gs.size b ↔ Mk b := fun b => by
    rw [hMdef]
    exact ⟨fun x => x.elim (fun y => absurd y.1 hk) fun y => y.2, fun x => .inr ⟨rfl, x⟩⟩
  have hcases : ∀ g b, M g b → (g = 0 ∧ M0 b) ∨ (g = gs.size ∧ Mk b) := fun g b h => by rw [hMdef] at h; exact h
  have hO := owns_spawn (Z := fun b => Sh b ∨ b = ch) (M := M) hP (hL.above gs.size (Nat.le_refl _)) (x := { g := 0, fn := a.frame.fn, pos := a.frame.place, act := .go gs.size }) (y := { g := gs.size, fn := child.frame.fn, pos := a.frame.place, act := .start }) rfl rfl rfl rfl
    (fun g h b h1 h2 hz => by
      rcases hcases g b h1 with ⟨rfl, x⟩ | ⟨rfl, x⟩ <;> rcases hcases h b h2 with ⟨rfl, y⟩ | ⟨rfl, y⟩
      · rfl
      · exact absurd (.inl (hd b x y)) hz
      · exact absurd (.inl (hd b y x)) hz
      · rfl) (fun g b h1 => (hcases g b h1).elim (fun x => (hM0 b x.2).1) fun x => (hMk b x.2).1)
  have hgk : ((gs.setIfInBounds 0 a1).push child)[gs.size]? = some child := by
    have hs : gs.size = (gs.setIfInBounds 0 a1).size := by simp
    rw [hs]
    exact Array.getElem?_push_size
  have hg0 : ((gs.setIfInBounds 0 a1).push child)[0]? = some a1 := by
    have hs : ¬ 0 = (gs.setIfInBounds 0 a1).size := by simp; omega
    rw [Array.getElem?_push, if_neg hs]
    exact Array.getElem?_setIfInBounds_self_of_lt hlt
  refine node_all hMsg T 0 Mk child w (by omega) hS (fun _ _ => False) T 0 #[] _ w sl _ q M (by omega) ⟨hO.1, .none _ _ _ _ _ _ _ _, hO.2, fun g x => ?_, ⟨cap, tm, hcap, hc⟩, rfl, fun j v hv => by simp at hv, ⟨fun j x hj hjk hx => ?_, fun j hj => ?_⟩, hk⟩ ⟨.refl _ _, hgk, hMk'⟩ (.inl ⟨M0, a1, w, hR, .refl _ _, hg0, hM0'⟩) (by simp)
  · rcases hcases g ch x with ⟨_, y⟩ | ⟨_, y⟩
    · exact (hM0 ch y).2 rfl
    · exact (hMk ch y).2 rfl
  · have hjlt : j < gs.size := by
      have := (Array.getElem?_eq_some_iff.1 hx).1
      simp at this
      omega
    have hx' : gs[j]? = some x := by
      have hne : (0 : Nat) ≠ j := by omega
      rw [Array.getElem?_push_lt (by simpa using hjlt)] at hx
      rw [← hx, Array.getElem_setIfInBounds_ne _ hne]
      exact Array.getElem?_eq_getElem hjlt
    rw [Deaf_still _ _ _ (by simp), Deaf_still _ _ _ (by simp)]
    exact hL.old j x hj (by omega) hx'
  · rw [Deaf_still _ _ _ (by simp), Deaf_still _ _ _ (by simp)]
    exact hL.above j (by simp at hj; omega)
end
theorem LeavX.leavers {P : Program} {t : Trace} {gs : Array Goroutine} {q : Nat → Nat} (h : LeavX P 0 t gs q) : Leavers P t gs q := ⟨fun i g hi hg => h.old i g hi (by omega) hg, h.above⟩
theorem LeavX.of_leavers {P : Program} {t : Trace} {gs : Array Goroutine} {q : Nat → Nat} (h : Leavers P t gs q) : LeavX P 0 t gs q := ⟨fun i g hi _ hg => h.old i g hi hg, h.above⟩
theorem LeavX.awake {P : Program} {t : Trace} {gs : Array Goroutine} {q : Nat → Nat} (h : LeavX P 0 t gs q) {a : Goroutine} (h0 : gs[0]? = some a) (hr : a.status = .running) : ∀ g ∈ gs, Go.Conc.awake g := fun g hg => by
  obtain ⟨i, hi, rfl⟩ := Array.mem_iff_getElem.1 hg
  rcases Nat.eq_zero_or_pos i with rfl | hpos
  · have : gs[0] = a := by simpa [Array.getElem?_eq_getElem hi] using h0
    rw [this]; exact awake_of (.inl hr)
  · exact awake_of ((h.old i _ hpos (by omega) (Array.getElem?_eq_getElem hi)).status.elim .inl fun x => .inr (.inr x))
theorem evL_of {Sh M : Nat → Prop} {B : Nat} {e : Event} (h : EvM Sh M e) (hM : ∀ b, M b → b < B) : EvL (fun _ => False) B e :=
  ⟨fun _ _ x => x.elim, (evM_hears h).1, (evM_hears h).2, evM_low h hM⟩
section
variable {P : Program} {Sh : Nat → Prop} {Stop : (Nat → Prop) → Goroutine → World → Prop} {sz : Nat}
def Lies (Stop : (Nat → Prop) → Goroutine → World → Prop) (M : Nat → Prop) (g : Goroutine) (w : World) : Prop := Stop M g w ∧ ∀ b, M b → b < w.heap.size
theorem co_beside {M0 : Nat → Prop} {a : Goroutine} {wR : World} (hC : Co P true Sh Stop M0 a wR) :
    ∀ (m : Nat) (gs : Array Goroutine) (w : World) (sl : Option (Nat × Nat)) (t : Trace) (q : Nat → Nat), sumTo gs.size q = m → Keeps M0 wR w → gs[0]? = some a → LeavX P 0 t gs q → Past (fun _ => False) w.heap.size t → (∀ b, M0 b → b < w.heap.size) → gs.size = sz →
      Comes P (Arrived P (Lies Stop) sz) gs w sl t := by
  induction hC with
  | @stop M0 a wR h =>
    intro m gs w sl t q hm hk h0 hL hP hb hsz
    exact .now ⟨hsz, a, M0, q, h0, ⟨h w hk, hb⟩, hL, hP⟩
  | @step M0 a wR ha he h ihC =>
    intro m
    induction m using Nat.strongRecOn with
    | _ m ih =>
      intro gs w sl t q hm hk h0 hL hP hb hsz
      obtain ⟨i, x, d, sl', hi, hx, hpick⟩ := crowd_pick (P := P) (w := w) (sl := sl) (hL.awake h0 ha) ⟨0, a, h0, ha⟩
      rcases Nat.eq_zero_or_pos i with rfl | hpos
      · obtain rfl : x = a := by rw [h0] at hi; exact (Option.some.inj hi).symm
        have hlt : 0 < gs.size := (Array.getElem?_eq_some_iff.1 h0).1
        obtain ⟨a1, w1, es, hgo, hG⟩ := he (w.at d) (hk.trans (.at _ _ _))
        have hsize : w.heap.size ≤ w1.heap.size := hG.size
        have hb1 : ∀ b, grown M0 (w.at d) w1 b → b < w1.heap.size := fun b x => by
          rcases x with x | ⟨_, x⟩
          · exact Nat.lt_of_lt_of_le (hb b x) hsize
          · exact x
        refine .step (hpick.trans (runT_crowd_go hi (show stepG P (0 == 0) x (w.at d) = _ from hgo))) (ihC (w.at d) (hk.trans (.at _ _ _)) a1 w1 es hgo _ _ w1 sl' _ q rfl (.refl _ _) (by simp [hlt]) (hL.own (.inl rfl) hlt fun op hop => ?_) ((hP.mono hsize).own fun e hee => evL_of (hG.ev e hee) hb1) hb1 (by simpa using hsz))
        obtain ⟨e, h1, rfl⟩ := Go.Conc.mem_ofEvents hop
        rfl
      · obtain ⟨g', es, q', hmu, hgo, hL', hlt⟩ := hL.slip hpos (by omega) hi hx x.frame.fn x.frame.place (w.at d)
        refine .step (hpick.trans (runT_crowd_go hi hgo)) (ih _ (by rw [← hm]; exact hlt) _ (w.at d) sl' _ q' (by simp) (hk.trans (.at _ _ _)) ?_ hL' (hP.mute (by omega) hmu) hb (by simpa using hsz))
        have hne : i ≠ 0 := by omega
        rw [Array.getElem?_setIfInBounds_ne hne, Array.getElem?_map, h0]
        simp [woken_run ha]
end
section
variable {P : Program} {Sh : Nat → Prop} {ch : Nat} {Msg : Nat → Value → (Nat → Prop) → World → Prop} {Fin : (Nat → Prop) → Goroutine → World → Prop} {T cap : Nat} {tm : Bool} {M0 Mk : Nat → Prop} {a a1 child : Goroutine}
theorem go_beside (hMsg : ∀ m v N w w1, Msg m v N w → Keeps N w w1 → Msg m v N w1) (ha : a.status = .running) (hcap : T ≤ cap) (hd : ∀ b, M0 b → Mk b → Sh b) (hgo : ∀ w, stepG P true a w = .spawn a1 child w #[]) :
    ∀ (m : Nat) (gs : Array Goroutine) (w : World) (sl : Option (Nat × Nat)) (t : Trace) (q : Nat → Nat), sumTo gs.size q = m → gs[0]? = some a → LeavX P 0 t gs q → Past (fun _ => False) w.heap.size t → w.heap[ch]? = some (.chan cap #[] false 0 0 tm) → (∀ b, M0 b → b < w.heap.size ∧ b ≠ ch) → (∀ b, Mk b → b < w.heap.size ∧ b ≠ ch) →
      Co P true Sh (RStop P Sh ch Msg Fin T 0) M0 a1 w → Co P false Sh (SStop P Sh ch Msg T 0) Mk child w → Comes P (Arrived P Fin (gs.size + 1)) gs w sl t := by
  intro m
  induction m using Nat.strongRecOn with
  | _ m ih =>
    intro gs w sl t q hm h0 hL hP hc hM0 hMk hR hS
    obtain ⟨i, x, d, sl', hi, hx, hpick⟩ := crowd_pick (P := P) (w := w) (sl := sl) (hL.awake h0 ha) ⟨0, a, h0, ha⟩
    rcases Nat.eq_zero_or_pos i with rfl | hpos
    · obtain ⟨gs1, ops, h1, h2⟩ := company (sl := sl') hMsg h0 (hgo (w.at d)) hL hP hc hcap hM0 hMk hd (hR.keeps (.at _ _ _)) (hS.keeps (.at _ _ _))
      exact .step (hpick.trans h1) h2
    · obtain ⟨g', es, q', hmu, hstep, hL', hlt⟩ := hL.slip hpos (by omega) hi hx x.frame.fn x.frame.place (w.at d)
      have hne : i ≠ 0 := by omega
      have := ih _ (by rw [← hm]; exact hlt) ((gs.map (woken P x g' (w.at d))).setIfInBounds i g') (w.at d) sl' (t ++ MemOp.ofEvents i x.frame.fn x.frame.place es) q' (by simp) (by rw [Array.getElem?_setIfInBounds_ne hne, Array.getElem?_map, h0]; simp [woken_run ha]) hL' (hP.mute (by omega) hmu) hc hM0 hMk (hR.keeps (.at _ _ _)) (hS.keeps (.at _ _ _))
      refine .step (hpick.trans (runT_crowd_go hi hstep)) ?_
      simpa using this
theorem Comes.then {Goal Goal' : Array Goroutine → World → Option (Nat × Nat) → Trace → Prop} {gs : Array Goroutine} {w : World} {sl : Option (Nat × Nat)} {t : Trace} (h : Comes P Goal gs w sl t) (f : ∀ gs w sl t, Goal gs w sl t → Comes P Goal' gs w sl t) : Comes P Goal' gs w sl t := by
  obtain ⟨N, gs1, w1, sl1, t1, hr, hg⟩ := h
  obtain ⟨N', gs2, w2, sl2, t2, hr', hg'⟩ := f gs1 w1 sl1 t1 hg
  refine ⟨N + N', gs2, w2, sl2, t2, ?_, hg'⟩
  rw [runNT_add, hr]
  exact hr'
end
end Go.Proofs.YtnpffnhiefgglaaGreatDoor
namespace Go.Proofs.YtnpffnhiefgglaaGreatDoor
open Go Go.Conc
set_option maxRecDepth 100000
def Bes (P : Program) (Q : Goroutine → World → Prop) (g : Goroutine) (w : World) : Prop :=
  ∀ gs sl t q, gs[0]? = some g → LeavX P 0 t gs q → Past (fun _ => False) w.heap.size t → Comes P (fun gs1 w1 _ t1 => ∃ g1 q1, gs1[0]? = some g1 ∧ Q g1 w1 ∧ LeavX P 0 t1 gs1 q1 ∧ Past (fun _ => False) w1.heap.size t1) gs w sl t
section
variable {P : Program} {Q Q' : Goroutine → World → Prop} {g : Goroutine} {w : World}
theorem Bes.now (h : Q g w) : Bes P Q g w := fun _ _ _ q h0 hL hP => .now ⟨g, q, h0, h, hL, hP⟩
theorem Bes.bind (h : Bes P Q g w) (f : ∀ g w, Q g w → Bes P Q' g w) : Bes P Q' g w := fun gs sl t q h0 hL hP => (h gs sl t q h0 hL hP).then fun gs1 w1 sl1 t1 ⟨g1, q1, e0, hq, hL1, hP1⟩ => f g1 w1 hq gs1 sl1 t1 q1 e0 hL1 hP1
theorem Bes.of_co {Sh M : Nat → Prop} {Stop : (Nat → Prop) → Goroutine → World → Prop} (h : Co P true Sh Stop M g w) (hM : ∀ b, M b → b < w.heap.size) (f : ∀ M g w, Stop M g w → (∀ b, M b → b < w.heap.size) → Q g w) : Bes P Q g w := fun gs sl t q h0 hL hP =>
  (co_beside h _ gs w sl t q rfl (.refl _ _) h0 hL hP hM rfl).then fun _ w1 _ _ ⟨_, a, M0, q1, e0, hs, hL1, hP1⟩ => .now ⟨a, q1, e0, f M0 a w1 hs.1 hs.2, hL1, hP1⟩
end
/-! ### the run alone -/
section
variable {P : Program} {Gl : Globs} {Al : Nat → Bool} {Sh : Nat → Prop} {d0 : Nat}
inductive Nxs (P : Program) (d0 : Nat) : St → St → Prop
  | refl (s : St) : Nxs P d0 s s
  | tail {s s1 s2 : St} (h : Nx P d0 s1 s) (k : Nxs P d0 s2 s1) : Nxs P d0 s2 s
end
end Go.Proofs.YtnpffnhiefgglaaGreatDoor
