/-
  A part of the proof.
-/
import Derived.Test.YtnpffnhiefgglaaGreatDoorParw06
import Derived.Conc.Beside
import Derived.Conc.CrowdComm
namespace Go.Proofs.YtnpffnhiefgglaaGreatDoor
open Go Go.Conc
set_option maxRecDepth 100000
def blk : Loc → Option Nat
  | .cell a => some a.block
  | .obj r => some r
  | _ => none
theorem blk_memory {l : Loc} : l.isMemory = true ↔ ∃ b, blk l = some b := by
  cases l <;> simp [Loc.isMemory, blk]
structure Owns (Z : Nat → Prop) (Act : Nat → Prop) (M : Nat → Nat → Prop) (n : Nat) (t : Trace) : Prop where
  clean : ∀ said, ¬ Race said t
  mine : ∀ g i a b, Act g → touchAt t i = some a → blk a.loc = some b → M g b → ¬ Z b → Knows t g i
  still : ∀ g i a b, Act g → touchAt t i = some a → blk a.loc = some b → Z b → a.write = true → Knows t g i
  disj : ∀ g h b, M g b → M h b → ¬ Z b → g = h
  bound : ∀ g b, M g b → b < n
  low : ∀ op ∈ t, op.act.low n
  hears : ∀ g, Act g → Deaf t g = 0
theorem touch_low {n : Nat} {t : Trace} (h : ∀ op ∈ t, op.act.low n) {i b : Nat} {a : Touch} (ha : touchAt t i = some a) (hb : blk a.loc = some b) : b < n := by
  obtain ⟨op, hop, hoa⟩ := touch_of ha
  have hl := h op (mem_of_getElem? hop)
  obtain ⟨g, fn, pos, act⟩ := op
  cases act with
  | access e =>
    simp only [MemAct.touch?, Option.some.injEq] at hoa
    subst hoa
    obtain ⟨loc, wr, sy⟩ := e
    cases loc <;> simp_all [blk, MemAct.low, Loc.low]
  | mark m => cases m <;> simp_all [MemAct.touch?] <;> (subst hoa; simp_all [blk, MemAct.low])
  | _ => simp [MemAct.touch?] at hoa
section
variable {Z Act : Nat → Prop} {M : Nat → Nat → Prop} {n n' : Nat} {t u : Trace}
theorem Owns.less {M' : Nat → Nat → Prop} {Act' : Nat → Prop} (h : Owns Z Act M n t) (hM : ∀ g b, M' g b → M g b) (hA : ∀ g, Act' g → Act g) : Owns Z Act' M' n t :=
  ⟨h.clean, fun g i a b hg ha hb hm => h.mine g i a b (hA g hg) ha hb (hM g b hm), fun g i a b hg => h.still g i a b (hA g hg), fun g k b h1 h2 => h.disj g k b (hM _ _ h1) (hM _ _ h2), fun g b hb => h.bound g b (hM g b hb), h.low, fun g hg => h.hears g (hA g hg)⟩
theorem Owns.quiet (h : Owns Z Act M n t) {y : MemOp} (hy : y.act.touch? = none) (hd : y.act ≠ .mark .disable) (he : y.act ≠ .mark .enable) (hl : y.act.low n) : Owns Z Act M n (t ++ #[y]) := by
  have hu : ∀ op ∈ (#[y] : Trace), op = y := fun op hop => by simpa using hop
  have old : ∀ {i a}, touchAt (t ++ #[y]) i = some a → touchAt t i = some a := fun {i a} ha => by
    obtain ⟨op, hop, hoa⟩ := touch_of ha
    rcases getElem?_append_cases hop with ⟨hi, hop'⟩ | ⟨_, hopu⟩
    · rw [touchAt_of hop']; exact hoa
    · rw [hu op hopu, hy] at hoa; cases hoa
  refine ⟨fun said => noRace_append (g := y.g) (h.clean said) (fun op hop => by rw [hu op hop]) fun i a _ op hop b hb _ => (by rw [hu op hop, hy] at hb; cases hb), fun g i a b hg ha hb hm hz => (h.mine g i a b hg (old ha) hb hm hz).app _, fun g i a b hg ha hb hz hw => (h.still g i a b hg (old ha) hb hz hw).app _, h.disj, h.bound, fun op hop => ?_, fun g hg => ?_⟩
  · rcases Array.mem_append.1 hop with h1 | h1
    · exact h.low op h1
    · rw [hu op h1]; exact hl
  · rw [Deaf_push]
    unfold deafStep
    split
    · exact absurd ‹_› hd
    · exact absurd ‹_› he
    · exact h.hears g hg
theorem evM_act {Sh N : Nat → Prop} {e : Event} (h : EvM Sh N e) : (MemAct.ofEvent e).touch? = none ∨ ∃ a b, (MemAct.ofEvent e).touch? = some a ∧ blk a.loc = some b ∧ N b ∧ (a.write = true → ¬ Sh b) := by
  obtain ⟨loc, wr, sy⟩ := e
  rcases h with ⟨a, h1, h2, h3, h4⟩ | ⟨r, h1, h2, h3, h4⟩ | h1
  · simp only at h1 h2; subst h1 h2
    exact .inr ⟨_, a.block, rfl, rfl, h3, h4⟩
  · simp only at h1 h2 h3; subst h1 h2 h3
    exact .inr ⟨_, r, rfl, rfl, h4, fun h => by cases h⟩
  · simp only at h1; subst h1
    exact .inl rfl
theorem evM_low {Sh N : Nat → Prop} {e : Event} (h : EvM Sh N e) (hN : ∀ b, N b → b < n) : (MemAct.ofEvent e).low n := by
  obtain ⟨loc, wr, sy⟩ := e
  rcases h with ⟨a, h1, h2, h3, h4⟩ | ⟨r, h1, h2, h3, h4⟩ | h1
  · simp only at h1 h2; subst h1 h2; exact hN _ h3
  · simp only at h1 h2 h3; subst h1 h2 h3; exact hN _ h4
  · simp only at h1; subst h1; trivial
theorem evM_hears {Sh N : Nat → Prop} {e : Event} (h : EvM Sh N e) : e.loc ≠ .mark .disable ∧ e.loc ≠ .mark .enable := by
  rcases h with ⟨a, h1, _⟩ | ⟨r, h1, _⟩ | h1 <;> rw [h1] <;> exact ⟨by simp, by simp⟩
def owned (M : Nat → Nat → Prop) (g n n' : Nat) : Nat → Nat → Prop := fun h b => M h b ∨ (h = g ∧ n ≤ b ∧ b < n')
theorem Owns.step (h : Owns Z Act M n t) {g : Nat} (hg : Act g) (hn : n ≤ n') {fn : FuncId} {pos : String} {es : Array Event} (he : ∀ e ∈ es, EvM Z (owned M g n n' g) e) : Owns Z Act (owned M g n n') n' (t ++ MemOp.ofEvents g fn pos es) := by
  have hops : ∀ op ∈ MemOp.ofEvents g fn pos es, op.g = g ∧ ∃ e ∈ es, op.act = .ofEvent e := fun op hop => by
    obtain ⟨e, h1, rfl⟩ := Go.Conc.mem_ofEvents hop
    exact ⟨rfl, e, h1, rfl⟩
  have hnew : ∀ op ∈ MemOp.ofEvents g fn pos es, ∀ a, op.act.touch? = some a → ∃ b, blk a.loc = some b ∧ owned M g n n' g b ∧ (a.write = true → ¬ Z b) := fun op hop a ha => by
    obtain ⟨_, e, h1, h2⟩ := hops op hop
    rw [h2] at ha
    rcases evM_act (he e h1) with h3 | ⟨a', b, h3, h4, h5, h6⟩
    · rw [h3] at ha; cases ha
    · rw [h3] at ha; cases ha
      exact ⟨b, h4, h5, h6⟩
  have hbound : ∀ k b, owned M g n n' k b → b < n' := fun k b hb => hb.elim (fun x => Nat.lt_of_lt_of_le (h.bound k b x) hn) fun x => x.2.2
  refine ⟨fun said => noRace_append (h.clean said) (fun op hop => (hops op hop).1) fun i a ha op hop c hc hcf => ?_, fun k i a b hk ha hb hm hz => ?_, fun k i a b hk ha hb hz hw => ?_, fun k l b h1 h2 hz => ?_, hbound, fun op hop => ?_, fun k hk => ?_⟩
  · obtain ⟨b, h1, h2, h3⟩ := hnew op hop c hc
    have hab : blk a.loc = some b := by rw [hcf.1]; exact h1
    by_cases hz : Z b
    · refine h.still g i a b hg ha hab hz ?_
      rcases hcf.2.2.1 with hw | hw
      · exact hw
      · exact absurd hz (h3 hw)
    · rcases h2 with h2 | ⟨_, h2, _⟩
      · exact h.mine g i a b hg ha hab h2 hz
      · exact absurd (touch_low h.low ha hab) (by omega)
  · obtain ⟨op, hop, hoa⟩ := touch_of ha
    rcases getElem?_append_cases hop with ⟨hi, hop'⟩ | ⟨_, hopu⟩
    · have ha' : touchAt t i = some a := by rw [touchAt_of hop']; exact hoa
      rcases hm with hm | ⟨_, hm, _⟩
      · exact (h.mine k i a b hk ha' hb hm hz).app _
      · exact absurd (touch_low h.low ha' hb) (by omega)
    · obtain ⟨b', h1, h2, h3⟩ := hnew op hopu a hoa
      obtain rfl : b' = b := by rw [h1] at hb; exact Option.some.inj hb
      have hkg : k = g := by
        rcases hm with hm | ⟨hm, _⟩
        · rcases h2 with h2 | ⟨_, h2, _⟩
          · exact h.disj k g b' hm h2 hz
          · exact absurd (h.bound k b' hm) (by omega)
        · exact hm
      have := knows_own hop
      rw [(hops op hopu).1] at this
      rw [hkg]; exact this
  · obtain ⟨op, hop, hoa⟩ := touch_of ha
    rcases getElem?_append_cases hop with ⟨hi, hop'⟩ | ⟨_, hopu⟩
    · have ha' : touchAt t i = some a := by rw [touchAt_of hop']; exact hoa
      exact (h.still k i a b hk ha' hb hz hw).app _
    · obtain ⟨b', h1, h2, h3⟩ := hnew op hopu a hoa
      obtain rfl : b' = b := by rw [h1] at hb; exact Option.some.inj hb
      exact absurd hz (h3 hw)
  · rcases h1 with h1 | ⟨h1, h1', _⟩ <;> rcases h2 with h2 | ⟨h2, h2', _⟩
    · exact h.disj k l b h1 h2 hz
    · exact absurd (h.bound k b h1) (by omega)
    · exact absurd (h.bound l b h2) (by omega)
    · rw [h1, h2]
  · rcases Array.mem_append.1 hop with h1 | h1
    · exact MemAct.low_mono hn (h.low op h1)
    · obtain ⟨_, e, h2, h3⟩ := hops op h1
      rw [h3]
      exact evM_low (he e h2) fun b hb => hbound g b hb
  · by_cases hkg : k = g
    · subst hkg
      rw [Deaf_own, deafBehind_still (fun e h1 => evM_hears (he e h1))]
      exact h.hears k hk
    · rw [Deaf_other t (g' := g) (fun e => hkg e.symm) _ fun op hop => (hops op hop).1]
      exact h.hears k hk
theorem Owns.mute (h : Owns Z Act M n t) {g : Nat} (hg : ¬ Act g) {fn : FuncId} {pos : String} {es : Array Event} (hm : ∀ e ∈ es, e.mute = true) : Owns Z Act M n (t ++ MemOp.ofEvents g fn pos es) := by
  have hops : ∀ op ∈ MemOp.ofEvents g fn pos es, op.g = g ∧ op.act.touch? = none ∧ op.act.low n := fun op hop => by
    obtain ⟨e, h1, rfl⟩ := Go.Conc.mem_ofEvents hop
    exact ⟨rfl, touch_mute (hm e h1), low_mute (hm e h1) n⟩
  have old : ∀ {i a}, touchAt (t ++ MemOp.ofEvents g fn pos es) i = some a → touchAt t i = some a := fun {i a} ha => by
    obtain ⟨op, hop, hoa⟩ := touch_of ha
    rcases getElem?_append_cases hop with ⟨hi, hop'⟩ | ⟨_, hopu⟩
    · rw [touchAt_of hop']; exact hoa
    · rw [(hops op hopu).2.1] at hoa; cases hoa
  refine ⟨fun said => noRace_append (h.clean said) (fun op hop => (hops op hop).1) fun i a _ op hop b hb _ => (by rw [(hops op hop).2.1] at hb; cases hb), fun k i a b hk ha hb hm hz => (h.mine k i a b hk (old ha) hb hm hz).app _, fun k i a b hk ha hb hz hw => (h.still k i a b hk (old ha) hb hz hw).app _, h.disj, h.bound, fun op hop => ?_, fun k hk => ?_⟩
  · rcases Array.mem_append.1 hop with h1 | h1
    · exact h.low op h1
    · exact (hops op h1).2.2
  · rw [Deaf_other t (g' := g) (fun e => hg (e ▸ hk)) _ fun op hop => (hops op hop).1]
    exact h.hears k hk
end
theorem last_at (t : Trace) (y : MemOp) : (t ++ #[y])[t.size]? = some y := by simp
theorem heard_last {t : Trace} {y : MemOp} (h : Deaf t y.g = 0) : (t ++ #[y]).heard t.size := ⟨y.g, by simp [Trace.g?], by rw [deaf_old (Nat.le_refl _)]; exact h⟩
theorem heard_app {t : Trace} {p : Nat} (u : Trace) (h : t.heard p) : (t ++ u).heard p := by
  have hp : p < t.size := by
    obtain ⟨g, h1, _⟩ := h
    unfold Trace.g? at h1
    obtain ⟨z, hz, _⟩ := Option.map_eq_some_iff.1 h1
    exact lt_size_of_getElem? hz
  exact (heard_old hp).2 h
structure Sent (Z : Nat → Prop) (M : Nat → Nat → Prop) (k ch : Nat) (B : Nat → Nat → Prop) (r s n : Nat) (t : Trace) : Prop where
  sends : ∀ m, r ≤ m → m < s → ∃ p op, t[p]? = some op ∧ op.g = k ∧ op.act = .send ch m ∧ t.heard p ∧ ∀ i a b, touchAt t i = some a → blk a.loc = some b → B m b → Before t i p
  apart : ∀ m b, r ≤ m → m < s → B m b → b < n ∧ ¬ Z b ∧ ∀ g, ¬ M g b
  two : ∀ m m' b, r ≤ m → m < s → r ≤ m' → m' < s → B m b → B m' b → m = m'
section
variable {Z Act : Nat → Prop} {M M' : Nat → Nat → Prop} {k ch r s n n' : Nat} {B : Nat → Nat → Prop} {t u : Trace}
theorem Sent.none (Z : Nat → Prop) (M : Nat → Nat → Prop) (k ch : Nat) (B : Nat → Nat → Prop) (r n : Nat) (t : Trace) : Sent Z M k ch B r r n t := ⟨fun m h1 h2 => by omega, fun m b h1 h2 => by omega, fun m m' b h1 h2 => by omega⟩
theorem Sent.app (h : Sent Z M k ch B r s n t) (hu : ∀ op ∈ u, ∀ a b, op.act.touch? = some a → blk a.loc = some b → ∀ m, r ≤ m → m < s → ¬ B m b) (hn : n ≤ n') (hM : ∀ m b, r ≤ m → m < s → B m b → ∀ g, ¬ M' g b) : Sent Z M' k ch B r s n' (t ++ u) := by
  refine ⟨fun m h1 h2 => ?_, fun m b h1 h2 hb => ⟨Nat.lt_of_lt_of_le (h.apart m b h1 h2 hb).1 hn, (h.apart m b h1 h2 hb).2.1, hM m b h1 h2 hb⟩, h.two⟩
  obtain ⟨p, op, g1, g2, g3, g4, g5⟩ := h.sends m h1 h2
  refine ⟨p, op, by rw [getElem?_append_old (lt_size_of_getElem? g1)]; exact g1, g2, g3, heard_app u g4, fun i a b ha hb hB => ?_⟩
  obtain ⟨x, hx, hxa⟩ := touch_of ha
  rcases getElem?_append_cases hx with ⟨hi, hx'⟩ | ⟨_, hxu⟩
  · exact (g5 i a b (by rw [touchAt_of hx']; exact hxa) hb hB).app u
  · exact absurd hB (hu x hxu a b hxa hb m h1 h2)
theorem Sent.step (h : Sent Z M k ch B r s n t) (hn : n ≤ n') {g : Nat} {fn : FuncId} {pos : String} {es : Array Event} (he : ∀ e ∈ es, EvM Z (owned M g n n' g) e) : Sent Z (owned M g n n') k ch B r s n' (t ++ MemOp.ofEvents g fn pos es) := by
  have key : ∀ m b, r ≤ m → m < s → B m b → ∀ g', ¬ owned M g n n' g' b := fun m b h1 h2 hB g' ho => by
    have ap := h.apart m b h1 h2 hB
    rcases ho with ho | ⟨_, ho, _⟩
    · exact ap.2.2 g' ho
    · exact absurd ap.1 (by omega)
  refine h.app (fun op hop a b ha hb m h1 h2 hB => ?_) hn key
  obtain ⟨e, g1, rfl⟩ := Go.Conc.mem_ofEvents hop
  rcases evM_act (he e g1) with g3 | ⟨a', b', g3, g4, g5, _⟩
  · rw [show (MemAct.ofEvent e).touch? = some a from ha] at g3; cases g3
  · rw [show (MemAct.ofEvent e).touch? = some a from ha] at g3; cases g3
    rw [hb] at g4; cases g4
    exact key m b h1 h2 hB g g5
theorem Sent.quiet (h : Sent Z M k ch B r s n t) (hu : ∀ op ∈ u, op.act.touch? = .none) : Sent Z M k ch B r s n (t ++ u) :=
  h.app (fun op hop a b ha => by rw [hu op hop] at ha; cases ha) (Nat.le_refl _) fun m b h1 h2 hB => (h.apart m b h1 h2 hB).2.2
theorem Sent.mute (h : Sent Z M k ch B r s n t) {g : Nat} {fn : FuncId} {pos : String} {es : Array Event} (hm : ∀ e ∈ es, e.mute = true) : Sent Z M k ch B r s n (t ++ MemOp.ofEvents g fn pos es) :=
  h.quiet fun op hop => by obtain ⟨e, h1, rfl⟩ := Go.Conc.mem_ofEvents hop; exact touch_mute (hm e h1)
def given (M : Nat → Nat → Prop) (N : Nat → Prop) : Nat → Nat → Prop := fun g b => M g b ∧ ¬ N b
theorem Sent.send (h : Sent Z M k ch B r s n t) (ho : Owns Z Act M n t) (hk : Act k) {N : Nat → Prop} (hN : ∀ b, N b → M k b ∧ ¬ Z b) (hrs : r ≤ s) {y : MemOp} (hg : y.g = k) (hy : y.act = .send ch s) :
    Sent Z (given M N) k ch (fun m b => if m = s then N b else B m b) r (s + 1) n (t ++ #[y]) := by
  refine ⟨fun m h1 h2 => ?_, fun m b h1 h2 hB => ?_, fun m m' b h1 h2 h3 h4 hB hB' => ?_⟩
  · by_cases hm : m = s
    · subst hm
      refine ⟨t.size, y, last_at t y, hg, hy, heard_last (by rw [hg]; exact ho.hears k hk), fun i a b ha hb hB => ?_⟩
      simp only [if_true] at hB
      obtain ⟨x, hx, hxa⟩ := touch_of ha
      rcases getElem?_append_cases hx with ⟨hi, hx'⟩ | ⟨_, hxu⟩
      · exact .inr ((ho.mine k i a b hk (by rw [touchAt_of hx']; exact hxa) hb (hN b hB).1 (hN b hB).2).hb_new (Nat.le_refl _) (last_at t y) hg)
      · have : x = y := by simpa using hxu
        rw [this, hy] at hxa; cases hxa
    · obtain ⟨p, op, g1, g2, g3, g4, g5⟩ := (h.quiet (u := #[y]) fun op hop => by rw [show op = y by simpa using hop, hy]; rfl).sends m h1 (by omega)
      exact ⟨p, op, g1, g2, g3, g4, fun i a b ha hb hB => g5 i a b ha hb (by simpa [hm] using hB)⟩
  · by_cases hm : m = s
    · subst hm
      simp only [if_true] at hB
      exact ⟨ho.bound k b (hN b hB).1, (hN b hB).2, fun g hg' => hg'.2 hB⟩
    · have ap := h.apart m b h1 (by omega) (by simpa [hm] using hB)
      exact ⟨ap.1, ap.2.1, fun g hg' => ap.2.2 g hg'.1⟩
  · by_cases hm : m = s <;> by_cases hm' : m' = s
    · omega
    · subst hm
      simp only [if_true] at hB
      exact absurd (hN b hB).1 ((h.apart m' b h3 (by omega) (by simpa [hm'] using hB')).2.2 k)
    · subst hm'
      simp only [if_true] at hB'
      exact absurd (hN b hB').1 ((h.apart m b h1 (by omega) (by simpa [hm] using hB)).2.2 k)
    · exact h.two m m' b h1 (by omega) h3 (by omega) (by simpa [hm] using hB) (by simpa [hm'] using hB')
def got (M : Nat → Nat → Prop) (N : Nat → Prop) : Nat → Nat → Prop := fun g b => M g b ∨ (g = 0 ∧ N b)
theorem Sent.recv (h : Sent Z M k ch B r s n t) (hrs : r < s) (hu : ∀ op ∈ u, op.act.touch? = .none) : Sent Z (got M (B r)) k ch B (r + 1) s n (t ++ u) := by
  have hq := h.quiet hu
  refine ⟨fun m h1 h2 => hq.sends m (by omega) h2, fun m b h1 h2 hB => ?_, fun m m' b h1 h2 h3 h4 => h.two m m' b (by omega) h2 (by omega) h4⟩
  have ap := h.apart m b (by omega) h2 hB
  refine ⟨ap.1, ap.2.1, fun g hg => ?_⟩
  rcases hg with hg | ⟨_, hg⟩
  · exact ap.2.2 g hg
  · exact absurd (h.two m r b (by omega) h2 (Nat.le_refl _) hrs hB hg) (by omega)
theorem Owns.recv (ho : Owns Z Act M n t) (h : Sent Z M k ch B r s n t) (hrs : r < s) (h0 : Act 0) {y : MemOp} (hg : y.g = 0) (hy : y.act = .recvDone ch r) (hc : ch < n) : Owns Z Act (got M (B r)) n (t ++ #[y]) := by
  have hq := ho.quiet (y := y) (by rw [hy]; rfl) (by rw [hy]; simp) (by rw [hy]; simp) (by rw [hy]; exact hc)
  refine ⟨hq.clean, fun g i a b hga ha hb hm hz => ?_, hq.still, fun g g' b h1 h2 hz => ?_, fun g b hb => ?_, hq.low, hq.hears⟩
  · rcases hm with hm | ⟨rfl, hm⟩
    · exact hq.mine g i a b hga ha hb hm hz
    · obtain ⟨p, op, g1, g2, g3, g4, g5⟩ := (h.quiet (u := #[y]) fun op hop => by rw [show op = y by simpa using hop, hy]; rfl).sends r (Nat.le_refl _) hrs
      refine ⟨t.size, y, last_at t y, hg, (g5 i a b ha hb hm).trans (.inr (.single (.inr ⟨.handOver (c := ch) (k := r) (by rw [act?_of g1, g3]) (by rw [act?_of (last_at t y), hy]), g4, heard_last (by rw [hg]; exact ho.hears 0 h0)⟩)))⟩
  · rcases h1 with h1 | ⟨h1, h1'⟩ <;> rcases h2 with h2 | ⟨h2, h2'⟩
    · exact ho.disj g g' b h1 h2 hz
    · exact absurd h1 ((h.apart r b (Nat.le_refl _) hrs h2').2.2 g)
    · exact absurd h2 ((h.apart r b (Nat.le_refl _) hrs h1').2.2 g')
    · rw [h1, h2]
  · rcases hb with hb | ⟨_, hb⟩
    · exact ho.bound g b hb
    · exact (h.apart r b (Nat.le_refl _) hrs hb).1
def AllK (k : Nat) (t : Trace) : Prop := ∀ i a, touchAt t i = some a → a.loc.isMemory = true → Knows t 0 i ∨ Knows t k i
theorem AllK.app (h : AllK k t) (hu : ∀ op ∈ u, op.act.touch? = .none ∨ op.g = 0 ∨ op.g = k) : AllK k (t ++ u) := by
  intro i a ha hm
  obtain ⟨x, hx, hxa⟩ := touch_of ha
  rcases getElem?_append_cases hx with ⟨hi, hx'⟩ | ⟨_, hxu⟩
  · exact (h i a (by rw [touchAt_of hx']; exact hxa) hm).imp (·.app u) (·.app u)
  · have := knows_own hx
    rcases hu x hxu with h1 | h1 | h1
    · rw [h1] at hxa; cases hxa
    · rw [h1] at this; exact .inl this
    · rw [h1] at this; exact .inr this
structure AllC (ch p : Nat) (t : Trace) : Prop where
  shut : t.act? p = some (.close ch)
  heard : t.heard p
  all : ∀ i a, touchAt t i = some a → a.loc.isMemory = true → Knows t 0 i ∨ Before t i p
theorem AllC.app {p : Nat} (h : AllC ch p t) (hu : ∀ op ∈ u, op.act.touch? = .none ∨ op.g = 0) : AllC ch p (t ++ u) := by
  refine ⟨by rw [act?_old (lt_of_act? h.shut)]; exact h.shut, heard_app u h.heard, fun i a ha hm => ?_⟩
  obtain ⟨x, hx, hxa⟩ := touch_of ha
  rcases getElem?_append_cases hx with ⟨hi, hx'⟩ | ⟨_, hxu⟩
  · exact (h.all i a (by rw [touchAt_of hx']; exact hxa) hm).imp (·.app u) (·.app u)
  · have := knows_own hx
    rcases hu x hxu with h1 | h1
    · rw [h1] at hxa; cases hxa
    · rw [h1] at this; exact .inl this
theorem AllK.close (h : AllK k t) (hd : Deaf t k = 0) {y : MemOp} (hg : y.g = k) (hy : y.act = .close ch) : AllC ch t.size (t ++ #[y]) := by
  refine ⟨by rw [act?_of (last_at t y), hy], heard_last (by rw [hg]; exact hd), fun i a ha hm => ?_⟩
  obtain ⟨x, hx, hxa⟩ := touch_of ha
  rcases getElem?_append_cases hx with ⟨hi, hx'⟩ | ⟨_, hxu⟩
  · rcases h i a (by rw [touchAt_of hx']; exact hxa) hm with h1 | h1
    · exact .inl (h1.app _)
    · exact .inr (.inr (h1.hb_new (Nat.le_refl _) (last_at t y) hg))
  · have : x = y := by simpa using hxu
    rw [this, hy] at hxa; cases hxa
theorem over_of_known (h : ∀ i a, touchAt t i = some a → a.loc.isMemory = true → Knows t 0 i) : t.HandedOver := by
  rintro i g hg hne ⟨x, hx, hm, _⟩
  obtain ⟨q, z, h1, h2, h3⟩ := h i x hx hm
  refine ⟨q, by simp [Trace.g?, h1, h2], ?_⟩
  rcases h3 with rfl | h3
  · simp only [Trace.g?, h1, Option.map_some, Option.some.injEq] at hg
    exact absurd (hg.symm.trans h2) hne
  · exact h3
theorem AllC.past {p : Nat} (h : AllC ch p t) (ho : Owns Z Act M n t) (h0 : Act 0) {y : MemOp} (hg : y.g = 0) (hy : y.act = .recvClosed ch) (hc : ch < n) : Past (fun _ => False) n (t ++ #[y]) := by
  have hq := ho.quiet (y := y) (by rw [hy]; rfl) (by rw [hy]; simp) (by rw [hy]; simp) (by rw [hy]; exact hc)
  have ha := h.app (u := #[y]) fun op hop => .inr (by rw [show op = y by simpa using hop, hg])
  have hk : ∀ i a, touchAt (t ++ #[y]) i = some a → a.loc.isMemory = true → Knows (t ++ #[y]) 0 i := fun i a h1 h2 => by
    rcases ha.all i a h1 h2 with h3 | h3
    · exact h3
    · exact ⟨t.size, y, last_at t y, hg, h3.trans (.inr (.single (.inr ⟨.closed (c := ch) ha.shut (by rw [act?_of (last_at t y), hy]), ha.heard, heard_last (by rw [hg]; exact ho.hears 0 h0)⟩)))⟩
  exact ⟨hq.clean, fun i a h1 h2 => .inl (hk i a h1 h2), over_of_known hk, hq.hears 0 h0, hq.low⟩
theorem Owns.of_past (h : Past (fun _ => False) n t) (M0 : Nat → Prop) (hM : ∀ b, M0 b → b < n) : Owns Z (fun g => g = 0) (fun g b => g = 0 ∧ M0 b) n t := by
  have hk : ∀ i a b, touchAt t i = some a → blk a.loc = some b → Knows t 0 i := fun i a b ha hb => (h.known i a ha (blk_memory.2 ⟨b, hb⟩)).resolve_right fun x => x.1
  exact ⟨h.clean, fun g i a b hg ha hb _ _ => by rw [hg]; exact hk i a b ha hb, fun g i a b hg ha hb _ _ => by rw [hg]; exact hk i a b ha hb, fun g g' b h1 h2 _ => h1.1.trans h2.1.symm, fun g b hb => hM b hb.2, h.seen, fun g hg => by rw [hg]; exact h.hears⟩
end
section
variable {P : Program} {main : Bool} {Sh : Nat → Prop} {Stop Stop' : (Nat → Prop) → Goroutine → World → Prop} {M R : Nat → Prop} {g : Goroutine} {w w0 w1 w' : World} {es : Array Event}
theorem Co.bind (h : Co P main Sh Stop M g w) (f : ∀ M g w, Stop M g w → Co P main Sh Stop' M g w) : Co P main Sh Stop' M g w := by
  induction h with
  | stop h => exact f _ _ _ (h _ (.refl _ _))
  | step hr he _ ih => exact .step hr he fun w1 hk g' w' es hs => ih w1 hk g' w' es hs
theorem Co.keeps (h : Co P main Sh Stop M g w) (hk : Keeps M w w1) : Co P main Sh Stop M g w1 := by
  cases h with
  | stop h => exact .stop fun w2 hk2 => h w2 (hk.trans hk2)
  | step hr he h => exact .step hr (fun w2 hk2 => he w2 (hk.trans hk2)) fun w2 hk2 => h w2 (hk.trans hk2)
theorem Keeps.less (h : Keeps M w w1) (hR : ∀ b, R b → M b) : Keeps R w w1 := ⟨fun b hb => h.heap b (hR b hb), h.size, h.os, h.output, h.tape⟩
theorem Keeps.at (M : Nat → Prop) (w : World) (d : Nat) : Keeps M w (w.at d) := ⟨fun _ _ => rfl, Nat.le_refl _, rfl, rfl, rfl⟩
theorem Keeps.chan {c cap s r : Nat} {buf : Array Value} {closed tm : Bool} (hM : ¬ M c) : Keeps M w (w.setChan c cap buf closed s r tm) := by
  refine ⟨fun b hb => ?_, by simp [World.setChan], rfl, rfl, rfl⟩
  show (w.heap.setIfInBounds c _)[b]? = _
  have hne : c ≠ b := fun e => hM (by rw [e]; exact hb)
  exact Array.getElem?_setIfInBounds_ne hne
theorem Guar.keeps (h : Guar Sh M w w' es) (hR : ∀ b, R b → b < w.heap.size ∧ (M b → Sh b)) : Keeps R w w' := by
  refine ⟨fun b hb => ?_, h.size, h.os, h.output, h.tape⟩
  by_cases hm : M b
  · exact h.still b ((hR b hb).2 hm) hm
  · exact h.rest b (hR b hb).1 hm
def With (Stop : (Nat → Prop) → Goroutine → World → Prop) (R : Nat → Prop) (w0 : World) (M' : Nat → Prop) (g : Goroutine) (w : World) : Prop := ∃ M, Stop M g w ∧ (∀ b, M' b ↔ M b ∨ R b) ∧ Keeps R w0 w
theorem Co.frame (h : Co P main Sh Stop M g w) : ∀ {M' : Nat → Prop}, (∀ b, M' b ↔ M b ∨ R b) → (∀ b, R b → b < w0.heap.size) → (∀ b, R b → ¬ M b) → Keeps R w0 w → Co P main Sh (With Stop R w0) M' g w := by
  induction h with
  | @stop M g w h =>
    intro M' hM' hR hd hk
    exact .stop fun w1 hk1 => ⟨M, h w1 (hk1.less fun b hb => (hM' b).2 (.inl hb)), hM', hk.trans (hk1.less fun b hb => (hM' b).2 (.inr hb))⟩
  | @step M g w hr he h ih =>
    intro M' hM' hR hd hk
    refine .step hr (fun w1 hk1 => ?_) fun w1 hk1 g' w' es hs => ?_
    · obtain ⟨g', w', es, h1, h2⟩ := he w1 (hk1.less fun b hb => (hM' b).2 (.inl hb))
      have hsz := hk1.size
      refine ⟨g', w', es, h1, h2.size, fun b hb hn => h2.rest b hb fun hm => hn ((hM' b).2 (.inl hm)), fun b hs hm => ?_, h2.os, h2.output, h2.tape, fun e h3 => ?_⟩
      · by_cases hm' : M b
        · exact h2.still b hs hm'
        · rcases (hM' b).1 hm with hm2 | hm2
          · exact absurd hm2 hm'
          · exact h2.rest b (Nat.lt_of_lt_of_le (hR b hm2) (Nat.le_trans hk.size hsz)) hm'
      · have hgrow : ∀ b, grown M w1 w' b → grown M' w1 w' b := fun b hb => hb.imp (fun x => (hM' b).2 (.inl x)) id
        rcases h2.ev e h3 with ⟨a, k1, k2, k3, k4⟩ | ⟨r, k1, k2, k3, k4⟩ | k
        · exact .inl ⟨a, k1, k2, hgrow _ k3, k4⟩
        · exact .inr (.inl ⟨r, k1, k2, k3, hgrow _ k4⟩)
        · exact .inr (.inr k)
    · have hk1' := hk1.less fun b hb => (hM' b).2 (.inl hb)
      obtain ⟨g2, w2, es2, h1, h2⟩ := he w1 hk1'
      rw [hs] at h1
      cases h1
      have hlt : ∀ b, R b → b < w1.heap.size := fun b hb => Nat.lt_of_lt_of_le (hR b hb) (Nat.le_trans hk.size hk1.size)
      refine ih w1 hk1' g' w' es hs (M' := grown M' w1 w') (fun b => ?_) hR (fun b hb => ?_) ((hk.trans (hk1.less fun b hb => (hM' b).2 (.inr hb))).trans (h2.keeps fun b hb => ⟨hlt b hb, fun hm => absurd hm (hd b hb)⟩))
      · constructor
        · rintro (x | x)
          · rcases (hM' b).1 x with y | y
            · exact .inl (.inl y)
            · exact .inr y
          · exact .inl (.inr x)
        · rintro ((x | x) | x)
          · exact .inl ((hM' b).2 (.inl x))
          · exact .inr x
          · exact .inl ((hM' b).2 (.inr x))
      · rintro (x | ⟨x, _⟩)
        · exact hd b hb x
        · exact absurd (hlt b hb) (by omega)
end
end Go.Proofs.YtnpffnhiefgglaaGreatDoor
namespace Go.Proofs.YtnpffnhiefgglaaGreatDoor
open Go Go.Conc
set_option maxRecDepth 100000
open Go.ConcN (sumTo upd sumTo_upd upd_ne upd_same)
/-! ### the two, each for itself -/
section
variable (P : Program) (Sh : Nat → Prop) (ch : Nat) (Msg : Nat → Value → (Nat → Prop) → World → Prop) (Fin : (Nat → Prop) → Goroutine → World → Prop)
def AtSend (i : Nat) (Next : (Nat → Prop) → Goroutine → World → Prop) (M : Nat → Prop) (g : Goroutine) (w : World) : Prop :=
  ∃ fr cs v z N, g = G fr cs ∧ stepG P false g w = .comm g #[scase ch v z] true .send w #[] ∧ (∀ b, N b → M b ∧ ¬ Sh b) ∧ Msg i v N w ∧
    ∀ w2, Keeps (fun b => M b ∧ ¬ N b) w w2 → Next (fun b => M b ∧ ¬ N b) (g.finishComm P #[scase ch v z] .send 0 undef false) w2
def AtClose (_ : Nat → Prop) (g : Goroutine) (w : World) : Prop :=
  ∃ fr cs, g = G fr cs ∧ mayWake P g = true ∧ ∀ cap buf s r tm, w.heap[ch]? = some (.chan cap buf false s r tm) → ∃ g' q, stepG P false g w = .go g' (w.setChan ch cap buf true s r tm) #[⟨.obj ch, false, true⟩, ⟨.obj ch, true, true⟩] ∧ QuitsD P q 0 g'
def SStop : Nat → Nat → (Nat → Prop) → Goroutine → World → Prop
  | 0, _ => AtClose P ch
  | n + 1, i => AtSend P Sh ch Msg i fun M g w => Co P false Sh (SStop n (i + 1)) M g w
def AtRecv (i : Nat) (Done Next : (Nat → Prop) → Goroutine → World → Prop) (M : Nat → Prop) (g : Goroutine) (w : World) : Prop :=
  ∃ fr cs z, g = G fr cs ∧ stepG P true g w = .comm g #[rcase ch z] true (.recv true) w #[] ∧
    (∀ w2, Keeps M w w2 → Done M (g.finishComm P #[rcase ch z] (.recv true) 0 z false) w2) ∧
    ∀ v N w2, Keeps M w w2 → (∀ b, N b → b < w2.heap.size ∧ ¬ M b ∧ ¬ Sh b) → Msg i v N w2 → Next (fun b => M b ∨ N b) (g.finishComm P #[rcase ch z] (.recv true) 0 v true) w2
def RStop : Nat → Nat → (Nat → Prop) → Goroutine → World → Prop
  | 0, i => AtRecv P Sh ch Msg i Fin fun _ _ _ => True
  | n + 1, i => AtRecv P Sh ch Msg i (fun _ _ _ => True) fun M g w => Co P true Sh (RStop n (i + 1)) M g w
end
/-! ### those that are only leaving -/
structure LeavX (P : Program) (k : Nat) (t : Trace) (gs : Array Goroutine) (q : Nat → Nat) : Prop where
  old : ∀ i g, 0 < i → i ≠ k → gs[i]? = some g → QuitsD P (q i) (Deaf t i) g
  above : ∀ j, gs.size ≤ j → Deaf t j = 0
theorem Deaf_still (t : Trace) (g : Nat) (u : Trace) (hu : ∀ op ∈ u, op.act ≠ .mark .disable ∧ op.act ≠ .mark .enable) : Deaf (t ++ u) g = Deaf t g := by
  obtain ⟨l⟩ := u
  rw [Deaf_append]
  induction l generalizing t with
  | nil => rfl
  | cons y l ih =>
    have hy := hu y (by simp)
    have e1 : deafStep g (Deaf t g) y = Deaf t g := by
      unfold deafStep
      split
      · exact absurd ‹_› hy.1
      · exact absurd ‹_› hy.2
      · rfl
    rw [List.foldl_cons, e1]
    exact ih t (fun op hop => hu op (by simp at hop ⊢; exact .inr hop))
section
variable {P : Program} {k : Nat} {t u : Trace} {gs : Array Goroutine} {q : Nat → Nat} {i : Nat}
theorem LeavX.own (h : LeavX P k t gs q) (hi : i = 0 ∨ i = k) (hlt : i < gs.size) {g g' : Goroutine} {w' : World} (hu : ∀ op ∈ u, op.g = i) : LeavX P k (t ++ u) ((gs.map (woken P g g' w')).setIfInBounds i g') q := by
  refine ⟨fun j x hj hjk hx => ?_, fun j hj => ?_⟩
  · have hne : i ≠ j := by omega
    rw [Array.getElem?_setIfInBounds_ne hne, Array.getElem?_map] at hx
    obtain ⟨y, hy, rfl⟩ := Option.map_eq_some_iff.1 hx
    have hq := h.old j y hj hjk hy
    rw [woken_quitsD hq, Deaf_other t hne u hu]
    exact hq
  · have hj' : gs.size ≤ j := by simpa using hj
    rw [Deaf_other t (g' := i) (by omega) u hu]
    exact h.above j hj'
theorem LeavX.set (h : LeavX P k t gs q) (hi : i = 0 ∨ i = k) (x : Goroutine) : LeavX P k t (gs.setIfInBounds i x) q := by
  refine ⟨fun j y hj hjk hy => ?_, fun j hj => h.above j (by simpa using hj)⟩
  have hne : i ≠ j := by omega
  rw [Array.getElem?_setIfInBounds_ne hne] at hy
  exact h.old j y hj hjk hy
theorem LeavX.still (h : LeavX P k t gs q) (hu : ∀ op ∈ u, op.act ≠ .mark .disable ∧ op.act ≠ .mark .enable) : LeavX P k (t ++ u) gs q :=
  ⟨fun j y hj hjk hy => by rw [Deaf_still t j u hu]; exact h.old j y hj hjk hy, fun j hj => by rw [Deaf_still t j u hu]; exact h.above j hj⟩
theorem LeavX.slip (h : LeavX P k t gs q) (hi0 : 0 < i) (hik : i ≠ k) {g : Goroutine} (hi : gs[i]? = some g) (hg : g.status = .running) (fn : FuncId) (pos : String) (w : World) :
    ∃ g' es q', (∀ e ∈ es, Event.mute e = true) ∧ stepG P (i == 0) g w = .go g' w es ∧ LeavX P k (t ++ MemOp.ofEvents i fn pos es) ((gs.map (woken P g g' w)).setIfInBounds i g') q' ∧ sumTo gs.size q' < sumTo gs.size q := by
  have hq := h.old i g hi0 hik hi
  have hb : (i == 0) = false := by simp; omega
  have hlt : i < gs.size := (Array.getElem?_eq_some_iff.1 hi).1
  cases hqi : q i with
  | zero => rw [hqi] at hq; rw [hq.1] at hg; cases hg
  | succ m =>
    rw [hqi] at hq
    rcases hq with ⟨hf, _⟩ | ⟨_, g', es, hm, hstp, hq'⟩
    · rw [hf] at hg; cases hg
    have hsum : sumTo gs.size (upd q i m) + (m + 1) = sumTo gs.size q + m := by
      have := sumTo_upd q m id hlt
      simpa [hqi] using this
    refine ⟨g', es, upd q i m, hm, by rw [hb]; exact hstp w, ⟨fun j x hj hjk hx => ?_, fun j hj => ?_⟩, by omega⟩
    · by_cases hji : i = j
      · subst hji
        rw [Array.getElem?_setIfInBounds_self_of_lt (by simpa using hlt)] at hx
        obtain rfl := Option.some.inj hx
        rw [upd_same, Deaf_own]
        exact hq'
      · rw [Array.getElem?_setIfInBounds_ne hji, Array.getElem?_map] at hx
        obtain ⟨y, hy, rfl⟩ := Option.map_eq_some_iff.1 hx
        have hqj := h.old j y hj hjk hy
        rw [woken_quitsD hqj, upd_ne q m (Ne.symm hji), Deaf_other t hji _ (fun op hop => by obtain ⟨e, _, rfl⟩ := Go.Conc.mem_ofEvents hop; rfl)]
        exact hqj
    · rw [Deaf_other t (g' := i) (by simp at hj; omega) _ (fun op hop => by obtain ⟨e, _, rfl⟩ := Go.Conc.mem_ofEvents hop; rfl)]
      exact h.above j (by simpa using hj)
theorem LeavX.free (h : LeavX P k t gs q) {j : Nat} {g : Goroutine} (hj : 0 < j) (hk : j ≠ k) (hg : gs[j]? = some g) (c : Nat) (send : Bool) : offersAt g c send = [] :=
  offersAt_of_not_blocked (fun hb => by rcases (h.old j g hj hk hg).status with h1 | h1 <;> rw [h1] at hb <;> cases hb) c send
def Comes (P : Program) (Goal : Array Goroutine → World → Option (Nat × Nat) → Trace → Prop) (gs : Array Goroutine) (w : World) (sl : Option (Nat × Nat)) (t : Trace) : Prop :=
  ∃ N gs' w' sl' t', runNT P N (crowd gs w sl) t = (.next (crowd gs' w' sl'), t') ∧ Goal gs' w' sl' t'
theorem Comes.now {Goal : Array Goroutine → World → Option (Nat × Nat) → Trace → Prop} {w : World} {sl : Option (Nat × Nat)} (h : Goal gs w sl t) : Comes P Goal gs w sl t := ⟨0, gs, w, sl, t, rfl, h⟩
theorem Comes.step {Goal : Array Goroutine → World → Option (Nat × Nat) → Trace → Prop} {w w1 : World} {sl sl1 : Option (Nat × Nat)} {gs1 : Array Goroutine} {ops : Array MemOp} (hs : stepT P (crowd gs w sl) = (.next (crowd gs1 w1 sl1), ops)) (h : Comes P Goal gs1 w1 sl1 (t ++ ops)) : Comes P Goal gs w sl t := by
  obtain ⟨N, gs', w', sl', t', hr, hg⟩ := h
  exact ⟨N + 1, gs', w', sl', t', by simp only [runNT, hs]; exact hr, hg⟩
end
/-! ### behind the close -/
structure Shut (P : Program) (Sh : Nat → Prop) (ch : Nat) (Msg : Nat → Value → (Nat → Prop) → World → Prop) (k T : Nat) (B M : Nat → Nat → Prop) (r : Nat) (buf : Array Value) (gs : Array Goroutine) (w : World) (t : Trace) (q : Nat → Nat) : Prop where
  ow : Owns (fun b => Sh b ∨ b = ch) (fun g => g = 0) M w.heap.size t
  se : Sent (fun b => Sh b ∨ b = ch) M k ch B r T w.heap.size t
  al : ∃ p, AllC ch p t
  ch0 : ∀ g, ¬ M g ch
  chan : ∃ cap tm, w.heap[ch]? = some (.chan cap buf true T r tm)
  size : r + buf.size = T
  msg : ∀ j v, buf[j]? = some v → Msg (r + j) v (B (r + j)) w
  leav : LeavX P 0 t gs q
theorem evM_up {Sh M : Nat → Prop} {ch : Nat} {N : Nat → Prop} {e : Event} (h : EvM Sh M e) (hM : ∀ b, M b → N b) (hc : ¬ M ch) : EvM (fun b => Sh b ∨ b = ch) N e := by
  rcases h with ⟨a, k1, k2, k3, k4⟩ | ⟨r, k1, k2, k3, k4⟩ | k
  · exact .inl ⟨a, k1, k2, hM _ k3, fun hw hz => hz.elim (k4 hw) fun e => hc (e ▸ k3)⟩
  · exact .inr (.inl ⟨r, k1, k2, k3, hM _ k4⟩)
  · exact .inr (.inr k)
theorem Co.running {P : Program} {main : Bool} {Sh : Nat → Prop} {Stop : (Nat → Prop) → Goroutine → World → Prop} {M : Nat → Prop} {g : Goroutine} {w : World} (h : Co P main Sh Stop M g w) (hS : ∀ M g w, Stop M g w → g.status = .running) : g.status = .running := by
  cases h with
  | stop h => exact hS _ _ _ (h _ (.refl _ _))
  | step hr _ _ => exact hr
section
variable {P : Program} {Sh : Nat → Prop} {ch : Nat} {Msg : Nat → Value → (Nat → Prop) → World → Prop} {Fin Stop : (Nat → Prop) → Goroutine → World → Prop} {k T r : Nat} {B : Nat → Nat → Prop} {buf : Array Value}
variable (hMsg : ∀ m v N w w1, Msg m v N w → Keeps N w w1 → Msg m v N w1)
include hMsg
theorem shut_walk {Goal : Array Goroutine → World → Option (Nat × Nat) → Trace → Prop} {sz : Nat} (hrunS : ∀ M g w, Stop M g w → g.status = .running)
    (hstop : ∀ (M0 : Nat → Prop) (a : Goroutine) (gs : Array Goroutine) (a' : Goroutine) (w : World) (sl : Option (Nat × Nat)) (t : Trace) (q : Nat → Nat) (M : Nat → Nat → Prop), Stop M0 a w → gs[0]? = some a' → a'.status = .running → (∀ w, stepG P true a' w = stepG P true a w) → (∀ b, M 0 b ↔ M0 b) → Shut P Sh ch Msg k T B M r buf gs w t q → gs.size = sz →
      ∃ gs1 w1 ops, runT P (crowd gs w sl) 0 = (.next (crowd gs1 w1 sl), ops) ∧ Comes P Goal gs1 w1 sl (t ++ ops))
    {M0 : Nat → Prop} {a : Goroutine} {wR : World} (hC : Co P true Sh Stop M0 a wR) :
    ∀ (m : Nat) (gs : Array Goroutine) (a' : Goroutine) (w : World) (sl : Option (Nat × Nat)) (t : Trace) (q : Nat → Nat) (M : Nat → Nat → Prop), sumTo gs.size q = m → Keeps M0 wR w → gs[0]? = some a' → a'.status = .running → (∀ w, stepG P true a' w = stepG P true a w) → (∀ b, M 0 b ↔ M0 b) → Shut P Sh ch Msg k T B M r buf gs w t q → gs.size = sz →
      Comes P Goal gs w sl t := by
  induction hC with
  | @stop M0 a wR h =>
    intro m
    induction m using Nat.strongRecOn with
    | _ m ihm =>
      intro gs a' w sl t q M hm hk h0 hr hst hM S hsz
      have haw : ∀ g ∈ gs, awake g := fun g hg => by
        obtain ⟨i, hi, rfl⟩ := Array.mem_iff_getElem.1 hg
        rcases Nat.eq_zero_or_pos i with rfl | hpos
        · have : gs[0] = a' := by simpa [Array.getElem?_eq_getElem hi] using h0
          rw [this]; exact awake_of (.inl hr)
        · exact awake_of ((S.leav.old i _ hpos (by omega) (Array.getElem?_eq_getElem hi)).status.elim .inl fun x => .inr (.inr x))
      obtain ⟨i, g, d, sl', hi, hg, hpick⟩ := crowd_pick (P := P) (w := w) (sl := sl) haw ⟨0, a', h0, hr⟩
      have S' : Shut P Sh ch Msg k T B M r buf gs (w.at d) t q := ⟨S.ow, S.se, S.al, S.ch0, S.chan, S.size, fun j v hv => hMsg _ _ _ _ _ (S.msg j v hv) (.at _ _ _), S.leav⟩
      rcases Nat.eq_zero_or_pos i with rfl | hpos
      · obtain ⟨gs1, w1, ops, h1, h2⟩ := hstop M0 a gs a' (w.at d) sl' t q M (h _ (hk.trans (.at _ _ _))) h0 hr hst hM S' hsz
        exact .step (hpick.trans h1) h2
      · obtain ⟨g', es, q', hmu, hgo, hL, hlt⟩ := S.leav.slip hpos (by omega) hi hg g.frame.fn g.frame.place (w.at d)
        refine .step (hpick.trans (runT_crowd_go hi hgo)) (ihm _ (by rw [← hm]; exact hlt) _ a' (w.at d) sl' _ q' M (by simp) (hk.trans (.at _ _ _)) ?_ hr hst hM ?_ (by simpa using hsz))
        · have hne : i ≠ 0 := by omega
          rw [Array.getElem?_setIfInBounds_ne hne, Array.getElem?_map, h0]
          simp [woken_run hr]
        · refine ⟨S'.ow.mute (by show ¬ i = 0; omega) hmu, S'.se.mute hmu, S'.al.imp fun p hp => hp.app fun op hop => ?_, S'.ch0, S'.chan, S'.size, S'.msg, hL⟩
          obtain ⟨e, h1, rfl⟩ := Go.Conc.mem_ofEvents hop
          exact .inl (touch_mute (hmu e h1))
  | @step M0 a wR hrun he h ih =>
    intro m
    induction m using Nat.strongRecOn with
    | _ m ihm =>
      intro gs a' w sl t q M hm hk h0 hr hst hM S hsz
      have haw : ∀ g ∈ gs, awake g := fun g hg => by
        obtain ⟨i, hi, rfl⟩ := Array.mem_iff_getElem.1 hg
        rcases Nat.eq_zero_or_pos i with rfl | hpos
        · have : gs[0] = a' := by simpa [Array.getElem?_eq_getElem hi] using h0
          rw [this]; exact awake_of (.inl hr)
        · exact awake_of ((S.leav.old i _ hpos (by omega) (Array.getElem?_eq_getElem hi)).status.elim .inl fun x => .inr (.inr x))
      obtain ⟨i, g, d, sl', hi, hg, hpick⟩ := crowd_pick (P := P) (w := w) (sl := sl) haw ⟨0, a', h0, hr⟩
      have S' : Shut P Sh ch Msg k T B M r buf gs (w.at d) t q := ⟨S.ow, S.se, S.al, S.ch0, S.chan, S.size, fun j v hv => hMsg _ _ _ _ _ (S.msg j v hv) (.at _ _ _), S.leav⟩
      rcases Nat.eq_zero_or_pos i with rfl | hpos
      · obtain rfl : g = a' := by rw [h0] at hi; exact (Option.some.inj hi).symm
        have hlt : 0 < gs.size := (Array.getElem?_eq_some_iff.1 h0).1
        obtain ⟨a1, w1, es, hgo, hG⟩ := he (w.at d) (hk.trans (.at _ _ _))
        have hchM : ¬ grown M0 (w.at d) w1 ch := fun x => by
          rcases x with x | ⟨x, _⟩
          · exact S.ch0 0 ((hM ch).2 x)
          · obtain ⟨cap, tm, hc⟩ := S'.chan
            exact absurd (Array.getElem?_eq_some_iff.1 hc).1 (by omega)
        have hev : ∀ e ∈ es, EvM (fun b => Sh b ∨ b = ch) (owned M 0 (w.at d).heap.size w1.heap.size 0) e := fun e hee => evM_up (hG.ev e hee) (fun b hb => hb.imp (fun x => (hM b).2 x) fun x => ⟨rfl, x⟩) hchM
        have hgo' : stepG P (0 == 0) g (w.at d) = .go a1 w1 es := (hst _).trans hgo
        refine .step (hpick.trans (runT_crowd_go hi hgo')) (ih (w.at d) (hk.trans (.at _ _ _)) a1 w1 es hgo _ _ a1 w1 sl' _ q (owned M 0 (w.at d).heap.size w1.heap.size) rfl (.refl _ _) (by simp [hlt]) ?_ (fun _ => rfl) (fun b => ?_) ?_ (by simpa using hsz))
        · exact (h (w.at d) (hk.trans (.at _ _ _)) a1 w1 es hgo).running hrunS
        · show (M 0 b ∨ _) ↔ _
          rw [hM b]
          exact ⟨fun x => x.imp id fun y => y.2, fun x => x.imp id fun y => ⟨rfl, y⟩⟩
        · have hops : ∀ op ∈ MemOp.ofEvents 0 g.frame.fn g.frame.place es, op.g = 0 := fun op hop => by
            obtain ⟨e, h1, rfl⟩ := Go.Conc.mem_ofEvents hop
            rfl
          refine ⟨S'.ow.step rfl hG.size hev, S'.se.step hG.size hev, S'.al.imp fun p hp => hp.app fun op hop => .inr (hops op hop), fun g' hg' => ?_, ?_, S'.size, fun j v hv => ?_, S'.leav.own (.inl rfl) hlt hops⟩
          · rcases hg' with x | ⟨_, x, _⟩
            · exact S.ch0 g' x
            · obtain ⟨cap, tm, hc⟩ := S'.chan
              exact absurd (Array.getElem?_eq_some_iff.1 hc).1 (by omega)
          · obtain ⟨cap, tm, hc⟩ := S'.chan
            exact ⟨cap, tm, by rw [hG.rest ch (Array.getElem?_eq_some_iff.1 hc).1 fun x => S.ch0 0 ((hM ch).2 x)]; exact hc⟩
          · have hj : r + j < T := by
              have := (Array.getElem?_eq_some_iff.1 hv).1
              have := S.size
              omega
            refine hMsg _ _ _ _ _ (S'.msg j v hv) (hG.keeps fun b hb => ?_)
            have ap := S'.se.apart (r + j) b (by omega) hj hb
            exact ⟨ap.1, fun x => absurd ((hM b).2 x) (ap.2.2 0)⟩
      · obtain ⟨g', es, q', hmu, hgo, hL, hlt⟩ := S.leav.slip hpos (by omega) hi hg g.frame.fn g.frame.place (w.at d)
        refine .step (hpick.trans (runT_crowd_go hi hgo)) (ihm _ (by rw [← hm]; exact hlt) _ a' (w.at d) sl' _ q' M (by simp) (hk.trans (.at _ _ _)) ?_ hr hst hM ?_ (by simpa using hsz))
        · have hne : i ≠ 0 := by omega
          rw [Array.getElem?_setIfInBounds_ne hne, Array.getElem?_map, h0]
          simp [woken_run hr]
        · refine ⟨S'.ow.mute (by show ¬ i = 0; omega) hmu, S'.se.mute hmu, S'.al.imp fun p hp => hp.app fun op hop => ?_, S'.ch0, S'.chan, S'.size, S'.msg, hL⟩
          obtain ⟨e, h1, rfl⟩ := Go.Conc.mem_ofEvents hop
          exact .inl (touch_mute (hmu e h1))
end
def Arrived (P : Program) (Fin : (Nat → Prop) → Goroutine → World → Prop) (sz : Nat) (gs : Array Goroutine) (w : World) (_ : Option (Nat × Nat)) (t : Trace) : Prop :=
  gs.size = sz ∧ ∃ a M0 q, gs[0]? = some a ∧ Fin M0 a w ∧ LeavX P 0 t gs q ∧ Past (fun _ => False) w.heap.size t
theorem chan_size (w : World) (c cap : Nat) (buf : Array Value) (closed : Bool) (s r : Nat) (tm : Bool) : (w.setChan c cap buf closed s r tm).heap.size = w.heap.size := by simp [World.setChan]
theorem chan_self {w : World} {c : Nat} {o : Obj} (h : w.heap[c]? = some o) (cap : Nat) (buf : Array Value) (closed : Bool) (s r : Nat) (tm : Bool) : (w.setChan c cap buf closed s r tm).heap[c]? = some (.chan cap buf closed s r tm) := by
  have := (Array.getElem?_eq_some_iff.1 h).1
  simp [World.setChan, this]
theorem rest_at (buf : Array Value) (j : Nat) (v : Value) (h : (buf.extract 1 buf.size)[j]? = some v) : buf[j + 1]? = some v := by
  rw [Array.getElem?_extract] at h
  split at h
  · rw [Nat.add_comm]; exact h
  · cases h
theorem first_at {buf : Array Value} (h : 0 < buf.size) : buf[0]? = some (buf.getD 0 undef) := by simp [Array.getD, h]
section
variable {P : Program} {Sh : Nat → Prop} {ch : Nat} {Msg : Nat → Value → (Nat → Prop) → World → Prop} {Fin : (Nat → Prop) → Goroutine → World → Prop} {k T : Nat} {B : Nat → Nat → Prop}
theorem rstop_running (n i : Nat) (M : Nat → Prop) (g : Goroutine) (w : World) (h : RStop P Sh ch Msg Fin n i M g w) : g.status = .running := by
  cases n with
  | zero => obtain ⟨fr, cs, z, rfl, _⟩ := h; rfl
  | succ n => obtain ⟨fr, cs, z, rfl, _⟩ := h; rfl
theorem sstop_running (n i : Nat) (M : Nat → Prop) (g : Goroutine) (w : World) (h : SStop P Sh ch Msg n i M g w) : g.status = .running := by
  cases n with
  | zero => obtain ⟨fr, cs, rfl, _⟩ := h; rfl
  | succ n => obtain ⟨fr, cs, v, z, N, rfl, _⟩ := h; rfl
theorem LeavX.alone {t : Trace} {gs : Array Goroutine} {q : Nat → Nat} (h : LeavX P 0 t gs q) (c : Nat) (send : Bool) : partners (gs.setIfInBounds 0 ph) c send = [] := partners_nil fun j g hg => by
  rcases getElem?_stand gs 0 j g hg with ⟨_, rfl⟩ | ⟨hj, hg'⟩
  · exact offersAt_ph c send
  · exact h.free (by omega) (by omega) hg' c send
theorem ofEvents_nil (g : Nat) (fn : FuncId) (pos : String) : MemOp.ofEvents g fn pos #[] = #[] := by simp [ofEvents_eq]
variable (hMsg : ∀ m v N w w1, Msg m v N w → Keeps N w w1 → Msg m v N w1)
include hMsg
theorem shut_run {sz : Nat} (n : Nat) : ∀ (r : Nat) (buf : Array Value) (M0 : Nat → Prop) (a : Goroutine) (wR : World), r + n = T → Co P true Sh (RStop P Sh ch Msg Fin n r) M0 a wR →
    ∀ (gs : Array Goroutine) (a' : Goroutine) (w : World) (sl : Option (Nat × Nat)) (t : Trace) (q : Nat → Nat) (M : Nat → Nat → Prop), Keeps M0 wR w → gs[0]? = some a' → a'.status = .running → (∀ w, stepG P true a' w = stepG P true a w) → (∀ b, M 0 b ↔ M0 b) → Shut P Sh ch Msg k T B M r buf gs w t q → gs.size = sz →
      Comes P (Arrived P Fin sz) gs w sl t := by
  induction n with
  | zero =>
    intro r buf M0 a wR hT hC gs a' w sl t q M hk h0 hr hst hM S hsz
    refine shut_walk hMsg (rstop_running 0 r) (fun M0 a gs a' w sl t q M hS h0 hr hst hM S hsz => ?_) hC _ gs a' w sl t q M rfl hk h0 hr hst hM S hsz
    obtain ⟨fr, cs, z, rfl, hcomm, hdone, _⟩ := hS
    obtain ⟨cap, tm, hc⟩ := S.chan
    have hlt : 0 < gs.size := (Array.getElem?_eq_some_iff.1 h0).1
    obtain rfl : buf = #[] := Array.size_eq_zero_iff.1 (by have := S.size; omega)
    refine ⟨_, _, _, crowd_recv_closed h0 ((hst w).trans hcomm) hc (S.leav.alone ch true), .now ?_⟩
    obtain ⟨p, hp⟩ := S.al
    rw [ofEvents_nil, Array.empty_append]
    exact ⟨by simpa using hsz, _, M0, q, by simp [hlt], hdone w (.refl _ _), (S.leav.set (.inl rfl) _).still (by simp), hp.past S.ow rfl rfl rfl (Array.getElem?_eq_some_iff.1 hc).1⟩
  | succ n ih =>
    intro r buf M0 a wR hT hC gs a' w sl t q M hk h0 hr hst hM S hsz
    refine shut_walk hMsg (rstop_running (n + 1) r) (fun M0 a gs a' w sl t q M hS h0 hr hst hM S hsz => ?_) hC _ gs a' w sl t q M rfl hk h0 hr hst hM S hsz
    obtain ⟨fr, cs, z, rfl, hcomm, _, hnext⟩ := hS
    obtain ⟨cap, tm, hc⟩ := S.chan
    have hlt : 0 < gs.size := (Array.getElem?_eq_some_iff.1 h0).1
    have hcl := (Array.getElem?_eq_some_iff.1 hc).1
    have hsome : 0 < buf.size := by have := S.size; omega
    have hrT : r < T := by omega
    refine ⟨_, _, _, crowd_recv_buf h0 ((hst w).trans hcomm) hc hsome (S.leav.alone ch true), ?_⟩
    have hk2 : ∀ R : Nat → Prop, ¬ R ch → Keeps R w (w.setChan ch cap (buf.extract 1 buf.size) true T (r + 1) tm) := fun R hR => .chan hR
    have hBr : ∀ b, B r b → b < w.heap.size ∧ ¬ (Sh b ∨ b = ch) ∧ ∀ g, ¬ M g b := fun b hb => S.se.apart r b (Nat.le_refl _) hrT hb
    have hm0 := S.msg 0 _ (first_at hsome)
    have hco := hnext (buf.getD 0 undef) (B r) _ (hk2 M0 fun x => S.ch0 0 ((hM ch).2 x)) (fun b hb => ⟨by rw [chan_size]; exact (hBr b hb).1, fun x => (hBr b hb).2.2 0 ((hM b).2 x), fun x => (hBr b hb).2.1 (.inl x)⟩) (hMsg _ _ _ _ _ hm0 (hk2 _ fun x => (hBr ch x).2.1 (.inr rfl)))
    rw [ofEvents_nil, Array.empty_append]
    refine ih (r + 1) (buf.extract 1 buf.size) _ _ _ (by omega) hco _ _ _ _ _ q (got M (B r)) (.refl _ _) (by simp [hlt]) rfl (fun _ => rfl) (fun b => ?_) ?_ (by simpa using hsz)
    · show (M 0 b ∨ (0 = 0 ∧ B r b)) ↔ _
      rw [hM b]
      exact ⟨fun x => x.imp id fun y => y.2, fun x => x.imp id fun y => ⟨rfl, y⟩⟩
    · have e : ∀ x y : MemOp, t ++ #[x, y] = (t ++ #[x]) ++ #[y] := fun x y => by rw [Array.append_assoc]; rfl
      refine ⟨?_, ?_, ?_, fun g hg => ?_, ⟨cap, tm, chan_self hc _ _ _ _ _ _⟩, by simp; have := S.size; omega, fun j v hv => ?_, (S.leav.set (.inl rfl) _).still (by simp)⟩
      · rw [e, chan_size]
        refine Owns.recv (S.ow.quiet (by rfl) (by simp) (by simp) (by exact hcl)) (S.se.quiet (by simp [MemAct.touch?])) hrT rfl rfl rfl hcl
      · rw [chan_size]
        exact S.se.recv hrT (by simp [MemAct.touch?])
      · obtain ⟨p, hp⟩ := S.al
        exact ⟨p, hp.app (by simp)⟩
      · rcases hg with hg | ⟨_, hg⟩
        · exact S.ch0 g hg
        · exact (hBr ch hg).2.1 (.inr rfl)
      · have hv' := rest_at buf j v hv
        have hj : r + (j + 1) < T := by
          have := (Array.getElem?_eq_some_iff.1 hv').1
          have := S.size
          omega
        rw [show r + 1 + j = r + (j + 1) by omega]
        exact hMsg _ _ _ _ _ (S.msg (j + 1) v hv') (hk2 _ fun x => (S.se.apart _ ch (by omega) hj x).2.1 (.inr rfl))
end
end Go.Proofs.YtnpffnhiefgglaaGreatDoor
