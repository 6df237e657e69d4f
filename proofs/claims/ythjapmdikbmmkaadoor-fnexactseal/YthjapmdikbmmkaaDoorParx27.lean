/-
  Laws that call Seal or Open, beside those that only leave: what stands at their begin and their end; what they see.
  A law that calls Seal or Open: out of its own steps beside those that only leave, what the claim asks: it ends, answers true, leaves what was there; no data race; all that were started only leave.
  The table of places, as a row's text lays it (an array of arrays of ints), is as the walks ask for it.
  What a law's claim hands over: its slices of bytes, the table of places.
-/
import Derived.Test.YthjapmdikbmmkaaDoorParx26
import Derived.Test.YthjapmdikbmmkaaDoorParx21
import Derived.Lib.LaidTab
import Derived.WideShapes
import GoSem.Claims
namespace Go.Proofs.YthjapmdikbmmkaaDoor
open Go Go.Conc Go.RowKit
set_option maxRecDepth 100000

structure Gr (C : Array Value) (e : TypeId) (w : World) : Prop where
  tab : TableIn C e w
  flat : ∀ v ∈ C, flatC v = true
  pl : ∀ (j : Nat) v, placesC[j]? = some v → C[j]? = some v
  cells : CellsTo Tryd.prog.globals.size w
theorem Gr.on {C : Array Value} {e : TypeId} {w w1 : World} (h : Gr C e w) (hl : Below w.heap.size w w1) : Gr C e w1 := ⟨by
  obtain ⟨lo, hi, h1, h2⟩ := h.tab
  exact ⟨lo, hi, (hl.block _ (Array.getElem?_eq_some_iff.1 h1).1).trans h1, h2⟩, h.flat, h.pl, cells_keeps h.cells hl.block⟩
def LawDone (f : FuncId) (t : Nat) (W : World) (g : Goroutine) (w1 : World) : Prop := ∃ frE : Frame, g = G frE [] ∧ frE.mode = .returning ∧ frE.fn = f ∧ frE.defers = [] ∧ frE.kind = .normal ∧ frE.tmps.getD t undef = .bool true ∧ Lay W w1
def See (e : Nat) (w : World) (lo hi : Nat) (v : Value) (n : Nat) (xs : List Int) : Prop := (n = 0 ∧ xs.length = 0) ∨ Own e w lo hi v n xs
section
variable {e : Nat} {w w' : World} {lo hi lo' hi' : Nat} {u v : Value} {n m : Nat} {xs ys : List Int}
theorem Own.see (h : Own e w lo hi v n xs) : See e w lo hi v n xs := .inr h
theorem See.on (h : See e w lo hi v n xs) (hb : Below w.heap.size w w') : See e w' lo hi v n xs := h.imp id fun h => h.on hb
theorem See.far (h : See e w lo hi v n xs) (hg : w.grownBy w' u.ownBlock) (hu : Own e w lo' hi' u m ys) (hd : hi ≤ lo' ∨ hi' ≤ lo) : See e w' lo hi v n xs := h.imp id fun h => h.far hg hu hd
theorem See.len (h : See e w lo hi v n xs) : xs.length = n := h.elim (fun ⟨a, b⟩ => by omega) fun h => h.len
theorem See.bytes {p : Option Addr} {c : Nat} (h : See e w lo hi (.slice p n c) n xs) : BytesIn w p n xs := h.elim (fun ⟨a, b⟩ h0 => by omega) fun h => h.bytes
theorem See.ret (h : See e w lo hi v n xs) (θ : Nat → Question → Nat) : See e (World.ret w θ) lo hi v n xs := h
theorem See.like {w1 : World} (h : See e w lo hi v n xs) (l : Like w w1) : See e w1 lo hi v n xs := h.imp id fun h => h.like l
theorem Own.tee {p : Option Addr} {c : Nat} (h : Own e w lo hi (.slice p n c) n xs) (hb : ∀ x ∈ xs, 0 ≤ x ∧ x < 256) : BytesT w p n c xs := ⟨h.len, h.cap, hb, fun h0 => by
  obtain ⟨b, o, e1, hc⟩ := h.bytes h0
  refine ⟨b, o, e1, fun j u hj => ?_⟩
  have hj' := (List.getElem?_eq_some_iff.1 hj).1
  have hl := h.len
  have := hc j (by omega)
  rw [List.getD_eq_getElem?_getD, hj] at this
  exact this⟩
theorem Own.low (h : Own e w lo hi v n xs) {lo' : Nat} (hl : lo' ≤ lo) : Own e w lo' hi v n xs := by
  obtain ⟨⟨h1, h2⟩, h3⟩ := h
  exact ⟨⟨h1, h2.imp id fun ⟨g, cap, cur, e1, h4, h5⟩ => ⟨g, cap, cur, e1, Nat.le_trans hl h4, h5⟩⟩, h3⟩
end
theorem seaL_length {KS NS AS BS : List Int} {an bn : Nat} (hK : KS.length = 32) (hN : NS.length = 12) (hA : AS.length = an) (hB : BS.length = bn) (han : an ≤ 1500) (hbn : bn ≤ 1500) : (seaL KS NS AS BS).length = bn + 16 := by
  rw [seaL, List.length_append, strT_length, hB, sea_length hK hN hA hB han hbn]
theorem row_owns {u : World} {γ n rc : Nat} {xs : List Int} (h : u.heap[γ]? = some (.cells (xs.map (Value.int .u8) ++ zerV (rc - n)).toArray 5 (0, 0))) (hn : n ≤ rc) (hm : rc ≤ maxLen) (hl : xs.length = n) : u.ownsRow γ 5 1 (.slice (some ⟨γ, 0, none⟩) n rc) n (xs.map (Value.int .u8)) :=
  ⟨by simp [hl], .inr ⟨γ, rc, _, rfl, Nat.le_refl _, h, hn, hm, by simp [zerV, hl]; omega, by
    rw [Nat.mul_one, List.take_append_of_le_length (by simp [hl])]
    exact List.take_of_length_le (by simp [hl])⟩⟩
theorem BCalls.row {Al : Als} (T : TameA Tryd.prog Al) {f : FuncId} {x : Array Value} {n : Nat} {xs : List Int} {w : World} (hf : Al f = true) (hb : Al.b f = false) (hx : ∀ t, t < x.size → t < 200 → Al.f f t = false)
    (hC : ∀ θ w1, Below (World.ret w θ).heap.size (World.ret w θ) w1 → Calls Tryd.prog f x w1 fun e w2 => ∃ p c, e = .returned (.slice p n c) ∧ Own 5 w2 w1.heap.size w2.heap.size (.slice p n c) n xs ∧ Below w1.heap.size w1 w2) :
    BCalls Tryd.prog f x w fun v w2 => ∃ p c, v = .slice p n c ∧ Own 5 w2 w.heap.size w2.heap.size (.slice p n c) n xs ∧ Below w.heap.size w w2 :=
  BCalls.lone T hf hb hx fun θ w1 h1 => (hC θ w1 h1).mono fun e w2 ⟨p, c, h2, ho, h3⟩ => ⟨_, h2, fun w3 l t => ⟨p, c, rfl, by
    have ho' := (ho.like l).low (lo' := w.heap.size) h1.size
    obtain ⟨τ, d, rfl⟩ := l
    exact ho', l.below (θ := θ) t (below_on h1 h3)⟩⟩
def sealN (kn nn an bn : Nat) : Nat := if kn = 32 ∧ nn = 12 ∧ an ≤ 1500 ∧ bn ≤ 1500 then bn + 16 else 0
def sealB (kn nn an bn : Nat) : Bool := decide (kn = 32 ∧ nn = 12 ∧ an ≤ 1500 ∧ bn ≤ 1500)
def sealX (kn nn an bn : Nat) (KS NS AS BS : List Int) : List Int := if kn = 32 ∧ nn = 12 ∧ an ≤ 1500 ∧ bn ≤ 1500 then seaL KS NS AS BS else []
theorem sizes_iff (kn nn an bn : Nat) : SizesOk kn nn an bn ↔ kn = 32 ∧ nn = 12 ∧ an ≤ 1500 ∧ bn ≤ 1500 := ⟨fun ⟨a, b, c, _, d⟩ => ⟨a, b, c, by omega⟩, fun ⟨a, b, c, d⟩ => ⟨a, b, c, by omega, by omega⟩⟩
theorem sealN_le (kn nn an bn : Nat) : sealN kn nn an bn ≤ 1516 := by
  unfold sealN
  split
  · omega
  · omega
theorem implSeal_b (kp np ap bp : Option Addr) (kn kc nn nc an ac bn bc : Nat) (KS NS AS BS : List Int) (C : Array Value) (e : TypeId) (w : World) (hg : Gr C e w) (hK : BytesT w kp kn kc KS) (hN : BytesT w np nn nc NS) (hA : BytesT w ap an ac AS) (hB : BytesT w bp bn bc BS) :
    BCalls Tryd.prog 8 #[.slice kp kn kc, .slice np nn nc, .slice ap an ac, .slice bp bn bc] w fun v w2 => ∃ p c, v = .tuple #[.slice p (sealN kn nn an bn) c, .bool (sealB kn nn an bn)] ∧ Own 5 w2 w.heap.size w2.heap.size (.slice p (sealN kn nn an bn) c) (sealN kn nn an bn) (sealX kn nn an bn KS NS AS BS) ∧ Below w.heap.size w w2 := fun Q fr cs h w1 hG hl => by
  have g1 := hg.on hl
  refine (seal_bes kp np ap bp kn kc nn nc an ac bn bc KS NS AS BS fr cs C e w1 (hK.keeps hl.block) (hN.keeps hl.block) (hA.keeps hl.block) (hB.keeps hl.block) g1.tab g1.flat g1.pl g1.cells).bind fun g w2 ⟨hl2, h'⟩ => ?_
  have hG2 := cells_keeps hG hl2.heap
  have hb2 := below_on hl hl2.below
  rcases h' with ⟨hno, rfl⟩ | ⟨hok, γ, rc, h1, h2, h3, rfl, h5⟩
  · rw [sizes_iff] at hno
    refine h _ w2 ⟨none, 0, ?_, ?_, hb2⟩ w2 hG2 (.refl _ _)
    · simp only [sealN, sealB, if_neg hno, decide_eq_false hno]
    · simp only [sealN, sealX, if_neg hno]
      exact .of (World.ownsRow_nil w2 _ 5 1)
  · rw [sizes_iff] at hok
    refine h _ w2 ⟨some ⟨γ, 0, none⟩, rc, ?_, ?_, hb2⟩ w2 hG2 (.refl _ _)
    · simp only [sealN, sealB, if_pos hok, decide_eq_true hok]
    · simp only [sealN, sealX, if_pos hok]
      have hlen : (seaL KS NS AS BS).length = bn + 16 := seaL_length (hK.len.trans hok.1) (hN.len.trans hok.2.1) hA.len hB.len hok.2.2.1 hok.2.2.2
      exact Own.low (.of (row_owns h5 h2 h3 hlen)) (Nat.le_trans hl.size h1)
theorem specSeal_b (kp np ap bp : Option Addr) (kn kc nn nc an ac bn bc : Nat) (KS NS AS BS : List Int) (w : World) (hK : KS.length = kn) (hN : NS.length = nn) (hA : AS.length = an) (hB : BS.length = bn) (hbc : bn ≤ bc) (ik : BytesIn w kp kn KS) (im : BytesIn w np nn NS) (ia : BytesIn w ap an AS) (ib : BytesIn w bp bn BS)
    (bk : ∀ x ∈ KS, 0 ≤ x ∧ x < 256) (bm : ∀ x ∈ NS, 0 ≤ x ∧ x < 256) (ba : ∀ x ∈ AS, 0 ≤ x ∧ x < 256) :
    Calls Tryd.prog 9 #[.slice kp kn kc, .slice np nn nc, .slice ap an ac, .slice bp bn bc] w fun ex w2 => ∃ p c, ex = .returned (.tuple #[.slice p (sealN kn nn an bn) c, .bool (sealB kn nn an bn)]) ∧ See 5 w2 w.heap.size w2.heap.size (.slice p (sealN kn nn an bn) c) (sealN kn nn an bn) (sealX kn nn an bn KS NS AS BS) ∧ Below w.heap.size w w2 := by
  by_cases hok : kn = 32 ∧ nn = 12 ∧ an ≤ 1500 ∧ bn ≤ 1500
  · simp only [sealN, sealB, sealX, if_pos hok, decide_eq_true hok]
    obtain ⟨h1, h2, h3, h4⟩ := hok
    subst h1 h2
    exact (specSeal_yes kp np ap bp kc nc an ac bn bc KS NS AS BS w hK hN hA hB h3 h4 hbc ik im ia ib bk bm ba).mono fun ex w2 ⟨p, c, a1, a2, a3⟩ => ⟨p, c, a1, a2.see, a3⟩
  · simp only [sealN, sealB, sealX, if_neg hok, decide_eq_false hok]
    exact (specSeal_no kp np ap bp kn kc nn nc an ac bn bc w (fun h => hok ((sizes_iff _ _ _ _).1 h))).mono fun ex w2 ⟨p, c, a1, a3⟩ => ⟨p, c, a1, .inl ⟨rfl, rfl⟩, a3⟩
end Go.Proofs.YthjapmdikbmmkaaDoor

namespace Go.Proofs.YthjapmdikbmmkaaDoor
open Go Go.Conc Go.RowKit
set_option maxRecDepth 100000

theorem results_oneT {P : Program} {fn : Func} {t : Nat} (hres : fn.results = #[.tmp t]) (tmps : Array Value) (w : World) : (results fn tmps).runT P w #[] = (.ok (tmps.getD t undef) w, #[]) := by
  simp [results, hres]
theorem law_fin {W : World} {f : FuncId} {fn : Func} {t : Nat} {args : Array Value} (hfn : Tryd.prog.funcs[f]? = some fn) (hres : fn.results = #[.tmp t]) (hini : Tryd.prog.inits.idxOf? f = none)
    (hB : Bes Tryd.prog (fun g w1 => ∃ frE : Frame, g = G frE [] ∧ frE.mode = .returning ∧ frE.fn = f ∧ frE.defers = [] ∧ frE.kind = .normal ∧ frE.tmps.getD t undef = .bool true ∧ Lay W w1) (G (Frame.enter Tryd.prog f args .normal) []) W) :
    ∃ M last o w' t', runNT Tryd.prog (M + 1) (solo (G (Frame.enter Tryd.prog f args .normal) []) W) #[] = (.ended o w', t') ∧ runN Tryd.prog M (solo (G (Frame.enter Tryd.prog f args .normal) []) W) = .next last ∧ step Tryd.prog last = .ended o w' ∧ Go.Conc.Good Tryd.prog (fun v w1 => v = .bool true ∧ Below W.heap.size W w1) last o w' t' := by
  obtain ⟨N, gs1, w1, sl1, t1, hr, g1, q1, h0, ⟨frE, rfl, m1, m2, m4, m5, e2, hl⟩, hL, hP⟩ := hB #[G (Frame.enter Tryd.prog f args .normal) []] none #[] (fun _ => 0) rfl (LeavX.of_leavers (leavers_one _ _)) (past_nil.mono (Nat.zero_le _))
  have hend : ∀ w2, AtRel w1 w2 → AtEnd Tryd.prog (fun _ => False) w1.heap.size (fun v w' => v = .bool true ∧ Below W.heap.size W w') (G frE []) w2 := by
    rintro w2 ⟨d, rfl⟩
    have m3 : Tryd.prog.funcs[frE.fn]? = some fn := by rw [m2]; exact hfn
    refine ⟨rfl, .bool true, #[], ?_, by simp, rfl, hl.os, hl.tape, hl.output, hl.size, hl.heap⟩
    simp only [stepG, G, m1, unwind, m4, m3, results_oneT hres, e2, GStep.after, doReturn, m5]
    rw [m2, hini, if_neg (by decide), seen_none]
    rfl
  obtain ⟨N', last, o, w', t', e4, e5, e6, e7⟩ := beside_ends (P := Tryd.prog) (D := fun _ _ _ => False) (n := 0) (sl := sl1) (fun _ _ _ h => h.elim) h0 hL.leavers hP hend
  refine ⟨N + N', last, o, w', t', ?_, ?_, e6, e7⟩
  · rw [Nat.add_assoc, runNT_add]
    rw [show runNT Tryd.prog N (solo (G (Frame.enter Tryd.prog f args .normal) []) W) #[] = (.next (crowd gs1 w1 sl1), t1) from hr]
    exact e4
  · rw [runN_add]
    rw [show runN Tryd.prog N (solo (G (Frame.enter Tryd.prog f args .normal) []) W) = .next (crowd gs1 w1 sl1) by rw [← runNT_fst _ _ _ #[]]; exact congrArg Prod.fst hr]
    exact e5
end Go.Proofs.YthjapmdikbmmkaaDoor

namespace Go.Proofs.YthjapmdikbmmkaaDoor
open Go.RowKit
set_option maxRecDepth 100000

theorem cells_of_tab2 {H : Type} {enc : TypeId × Value → H} {P : Program} {w : World} {base : Nat} {sp : Nat → Bool} {held : Bool} {fuel : Nat} {t t2 e : TypeId} {n m : Nat} {k : IntKind} {cs : List Value} {zss : List (List Int)} {p : List MemPlace}
    (ht : P.underlying t = some (.array n t2)) (ht2 : P.underlying t2 = some (.array m e)) (he : P.underlying e = some (.int k)) (hce : P.cellsOf e = 1) (hc2 : P.cellsOf t2 = m)
    (h : DataW.trod enc P w base sp held fuel t cs = some (.agg (zss.map (Lib.tabData k)), p)) : ∀ i zs, zss[i]? = some zs → (cs.drop (i * m)).take m = zs.map fun z => Value.int k z := by
  cases fuel with
  | zero => simp [DataW.trod] at h
  | succ fuel =>
    simp only [DataW.trod, ht, hc2] at h
    split at h
    · obtain ⟨xs, hm, hx⟩ := Option.map_eq_some_iff.1 h
      have hxs : xs.map (·.1) = zss.map (Lib.tabData (H := H) k) := by
        have := congrArg Prod.fst hx
        simpa using this
      have hxl : xs.length = n := by simpa using Lib.mapM_length hm
      intro i zs hz
      have hi : i < n := by
        have h1 : i < zss.length := (List.getElem?_eq_some_iff.1 hz).1
        have := congrArg List.length hxs
        simp at this
        omega
      obtain ⟨b, hb, hf⟩ := Lib.mapM_at hm i i (by simp [hi])
      have h2 : (xs.map (·.1))[i]? = some b.1 := by simp [hb]
      rw [hxs, List.getElem?_map, hz] at h2
      have h3 : b = (Lib.tabData k zs, b.2) := by
        have := Option.some.inj h2
        rw [this]
      rw [h3] at hf
      exact Lib.cells_of_tab ht2 he hce hc2 hf
    · cases h

theorem places_of {W : World} {rest : List (String × DataW Unit)} (h : laidMet Tryd.prog (("loop.example/g00473/impl.quarterPlaces", .agg ((placesL.map castL).map (Lib.tabData .i64))) :: rest) W) : PlacesIs W := by
  obtain ⟨ps, ⟨g', t', cs, fuel, p, q, hg', ht', hvar, hd, _, _⟩, _⟩ := h
  have hg : Tryd.prog.globalNamed "loop.example/g00473/impl.quarterPlaces" = some 0 := by kernel_rfl
  have hty : (Tryd.prog.globals[0]?).map (·.type) = some 91 := by kernel_rfl
  obtain rfl := Option.some.inj (hg.symm.trans hg')
  obtain rfl := Option.some.inj (hty.symm.trans ht')
  have key := cells_of_tab2 Tryd.underlying91 Tryd.underlying90 Tryd.underlying3 (by kernel_rfl) (by kernel_rfl) hd
  intro j v hv
  have hj : j < 32 := (List.getElem?_eq_some_iff.1 hv).1
  have hc := World.var?_cell hg hvar j
  rw [Nat.zero_add, hc]
  obtain ⟨a, b, ha, hb, rfl⟩ : ∃ a b, a < 8 ∧ b < 4 ∧ j = a * 4 + b := ⟨j / 4, j % 4, by omega, by omega, by omega⟩
  have k1 := fun zs hz => congrArg (fun l : List Value => l[b]?) (key a zs hz)
  simp only [List.getElem?_take, List.getElem?_drop, if_pos hb] at k1
  have h8 : a = 0 ∨ a = 1 ∨ a = 2 ∨ a = 3 ∨ a = 4 ∨ a = 5 ∨ a = 6 ∨ a = 7 := by omega
  have h4 : b = 0 ∨ b = 1 ∨ b = 2 ∨ b = 3 := by omega
  have e : cs[a * 4 + b]? = cs.toList[a * 4 + b]? := by simp
  rw [e]
  clear e hc hvar hd key
  rcases h8 with rfl | rfl | rfl | rfl | rfl | rfl | rfl | rfl <;> rcases h4 with rfl | rfl | rfl | rfl <;> exact (k1 _ rfl).trans hv

end Go.Proofs.YthjapmdikbmmkaaDoor

namespace Go.Proofs.YthjapmdikbmmkaaDoor
open Go Go.Conc Go.RowKit
set_option maxRecDepth 100000

theorem arg_bytes {W : World} {base : Nat} {a : Option Addr} {len cap : Nat} {zs : List Int} (hok : Value.okWide Tryd.prog W .any base 22 (.slice a len cap))
    (h : (a = none ∧ len = 0 ∧ cap = 0 ∧ zs = []) ∨ ∃ x, a = some x ∧ len ≤ cap ∧ cap ≤ maxLen ∧ zs.length = cap ∧ (∀ i, i < zs.length → W.cell? (x.add i) = some (.int .u8 (zs.getD i 0))) ∧ ∀ n ∈ zs, (Lit.int .u8 n).wf = true) :
    BytesT W a len cap (zs.take len) := by
  rcases h with ⟨rfl, rfl, rfl, rfl⟩ | ⟨x, rfl, hl, hm, hz, hcell, hwz⟩
  · exact ⟨rfl, Nat.le_refl _, fun x hx => (by cases hx), fun h => absurd h (Nat.lt_irrefl 0)⟩
  · have hs : x.spot = none := by
      simp only [Value.okWide, Tryd.underlying22, Cell.okWide, Cell.ok] at hok
      obtain ⟨_, _, _, h1, _⟩ := hok
      exact h1
    obtain ⟨b, o, sp⟩ := x
    obtain rfl : sp = none := hs
    refine ⟨by simp; omega, hl, fun y hy => ?_, fun _ => ⟨b, o, rfl, fun j u hu => ?_⟩⟩
    · have := bounds_u8 (hwz y (List.mem_of_mem_take hy))
      omega
    · have hj := (List.getElem?_eq_some_iff.1 hu).1
      rw [List.length_take] at hj
      have := hcell j (by omega)
      rw [Addr.add_lit] at this
      rw [this]
      rw [List.getElem?_take, if_pos (by omega)] at hu
      rw [List.getD_eq_getElem?_getD, hu]
      rfl
theorem gr_of {W : World} (hsh : W.ShapedOpen Tryd.prog) (hP : PlacesIs W) : ∃ C e, Gr C e W := by
  have h1 : (((begin Tryd.prog (fun _ _ => 0) default).world.heap[0]?).bind Obj.row?).map (fun x => x.1.size) = some 32 := by kernel_rfl
  have hone : Tryd.prog.globals.size = 1 := by kernel_rfl
  have hzero : 0 = 0 := by decide
  have tabG : 0 < Tryd.prog.globals.size := by rw [hone]; decide
  obtain ⟨⟨zero, t⟩, h2, h3⟩ := Option.map_eq_some_iff.1 h1
  obtain ⟨cs, h4, h5, _⟩ := hsh.1 0 zero t tabG h2
  have hsz : cs.size = 32 := h5.trans h3
  have hcell : ∀ (j : Nat) v, placesC[j]? = some v → cs[j]? = some v := fun j v hv => by
    have := hP j v hv
    simpa only [World.cell?, h4, Option.isSome_none, Bool.false_eq_true, if_false, Nat.zero_add] using this
  have hps : placesC.toArray.size = 32 := by kernel_rfl
  have hfl : placesC.all flatC = true := by kernel_rfl
  refine ⟨cs, t, ⟨0, 0, h4, fun i _ h => absurd h (Nat.not_lt_zero _)⟩, fun v hv => ?_, hcell, fun b hb => ?_⟩
  · obtain ⟨j, hj, rfl⟩ := Array.mem_iff_getElem.1 hv
    have hj' : j < placesC.length := by
      have : placesC.length = 32 := by simpa using hps
      omega
    have := hcell j placesC[j] (List.getElem?_eq_getElem hj')
    rw [Array.getElem?_eq_getElem hj] at this
    rw [Option.some.inj this]
    exact List.all_eq_true.1 hfl _ (List.getElem_mem _)
  · obtain rfl : b = 0 := by omega
    exact ⟨_, hzero ▸ h4, rfl⟩
end Go.Proofs.YthjapmdikbmmkaaDoor
