/-
  A part of the proof.
-/
import Derived.Test.YtnpffnhiefgglaaGreatDoorParw13
import Derived.Test.YtnpffnhiefgglaaGreatDoorParw11
import Derived.Test.YtnpffnhiefgglaaGreatDoorParw09
import Derived.Deep.RegionHeld3
namespace Go.Proofs.YtnpffnhiefgglaaGreatDoor
open Go Go.Conc
set_option maxRecDepth 100000
def bE : Frame := { (default : Frame) with fn := 38, kind := .normal }
noncomputable def bodyE : Code := Tryz.f38.body.getD .skip
noncomputable def ops2E : Array Oper := match bodyE with | .seq _ (.seq _ (.seq (.region _ o _) _)) => o | _ => #[]
noncomputable def rest2E : Code := match bodyE with | .seq _ (.seq _ (.seq _ t)) => t | _ => .skip
noncomputable def ops3E : Array Oper := match bodyE with | .seq _ (.seq _ (.seq _ (.seq (.region _ o _) _))) => o | _ => #[]
noncomputable def tailE : Code := match bodyE with | .seq _ (.seq _ (.seq _ (.seq _ t))) => t | _ => .skip
theorem enter_E (x y z u : Value) : Frame.enter Tryz.prog 38 #[x, y, z, u] .normal = bE.at ⟨#[x, y, z, u] ++ Array.replicate 26 undef, []⟩ [.code bodyE] := by
  simp [Frame.enter, Frame.at, bE, bodyE, Tryz.func38, Tryz.f38]
def waitE (R O : Nat) : List Deferred := [dval 70 #[.pointer (some ⟨R, 0, none⟩), .pointer (some ⟨O, 0, none⟩)]]
noncomputable def strE (k n a : Value) (bp : Option Addr) (bn bc R O : Nat) (v21 : Value) (l : List Nat) : Frame := bE.at ⟨#[k, n, a, .slice bp bn bc, undef, undef, undef, undef, .pointer (some ⟨R, 0, none⟩), .pointer (some ⟨O, 0, none⟩), undef, .func (.func 70) #[] #[.pointer (some ⟨R, 0, none⟩), .pointer (some ⟨O, 0, none⟩)], k, n, a, .slice bp bn bc, .int .i64 bn, undef, k, n, .slice bp bn bc, v21, undef, undef, undef, undef, undef, undef, undef, undef], waitE R O⟩ [.inRegion ops3E l, .code tailE]
theorem results_E (tmps : Array Value) (R O : Nat) (h8 : tmps.getD 8 undef = .pointer (some ⟨R, 0, none⟩)) (h9 : tmps.getD 9 undef = .pointer (some ⟨O, 0, none⟩)) : results Tryz.f38 tmps = (do let v ← loadVar 22 ⟨R, 0, none⟩; let u ← loadVar 4 ⟨O, 0, none⟩; pure (.tuple #[v, u])) := by
  unfold results
  have e : Tryz.f38.results = #[.cell 8 22, .cell 9 4] := rfl
  rw [e, Array.mapM_eq_mapM_toList]
  rw [Array.getD_eq_getD_getElem?] at h8 h9
  simp [h8, h9, asAddr]
theorem unwindE {m : FrameMode} {a : Act} {R O : Nat} {todo : List Item} {cs : List Frame} {w : World} {main : Bool} {b : Frame} (hm : m ≠ .run) (hd : a.defers = waitE R O) : stepG Tryz.prog main (G { b.at a todo with mode := m } cs) w = .go (G ((baseD 70).at ⟨#[.pointer (some ⟨R, 0, none⟩), .pointer (some ⟨O, 0, none⟩), undef, undef], []⟩ [.code bodyS1]) ({ b.at ⟨a.tmps, []⟩ todo with mode := m } :: cs)) w #[] :=
  stepG_unwindV (c := bodyS1) hm hd Tryz.func70 (by kernel_rfl) rfl
theorem run_loadVar_one {w : World} {g : Nat} {ty e : TypeId} {v : Value} {fr : Nat × Nat} {d : TypeDesc} (hg : w.heap[g]? = some (.cells #[v] e fr)) (hu : Tryz.prog.underlying ty = some d) (hd : (match d with | .struct _ | .array _ _ => true | _ => false) = false) : (loadVar ty ⟨g, 0, none⟩).run Tryz.prog w = .ok v w := by
  have hc : w.cell? ⟨g, 0, none⟩ = some v := by rw [cell_of_row _ _ _ _ _ _ hg]; rfl
  have h1 : (isAgg ty).run Tryz.prog w = .ok false w := by cases d <;> simp_all [isAgg, run_underlying hu]
  simp [loadVar, h1, hc]
section
variable {Sh : Nat → Prop} {Stop : (Nat → Prop) → Goroutine → World → Prop} {M : Nat → Prop} {w : World}
theorem out_E (tmps : Array Value) (todo : List Item) (R O : Nat) (v : Value) (ok : Bool) (T : Nat → Prop) (c : Frame) (cs : List Frame) (h8 : tmps.getD 8 undef = .pointer (some ⟨R, 0, none⟩)) (h9 : tmps.getD 9 undef = .pointer (some ⟨O, 0, none⟩))
    (hR : w.heap[R]? = some (.cells #[v] 22 (0, 0))) (hO : w.heap[O]? = some (.cells #[.bool ok] 4 (0, 0))) (hT : ∀ b, T b → M b) (hTR : T R) (hTO : T O) (hTS : ∀ b, Sh b → ¬ T b) (hSw : ∀ b, Sh b → b < w.heap.size) (hm : ∀ b, T b → ∃ o, w.heap[b]? = some o ∧ RelO (idr T 0 fun _ => False) 0 o o)
    (next : Co Tryz.prog true Sh Stop M (G (c.finish (.tuple #[v, .bool ok])) cs) w) :
    Co Tryz.prog true Sh Stop M (G { bE.at ⟨tmps, []⟩ todo with mode := .returning } (c :: cs)) w := by
  refine Co.leaves (N := T) (n := 0) (A := fun _ => False) rfl rfl Tryz.func38 hT ?_ (fun w4 hk4 => ⟨fun b hb => ?_, fun b hs hb => absurd hb (hTS b hs), fun b hb => Nat.lt_of_lt_of_le (hSw b hb) hk4.size, Nat.zero_le _⟩) (fun w4 hk4 => ?_) next
  · rw [results_E _ R O h8 h9]
    refine (sim_loadVar (show RelA (idr T 0 fun _ => False) ⟨R, 0, none⟩ ⟨R, 0, none⟩ from ⟨⟨rfl, hTR⟩, rfl, rfl, fun _ => rfl, Nat.zero_le _⟩) 22).bd fun ρ1 u u' hle hu => ?_
    refine (sim_loadVar (show RelA ρ1 ⟨O, 0, none⟩ ⟨O, 0, none⟩ from RelA.mono hle ⟨⟨rfl, hTO⟩, rfl, rfl, fun _ => rfl, Nat.zero_le _⟩) 4).bd fun ρ2 x x' hle2 hx => .pr (.tuple rfl fun i y y' g1 g2 => ?_)
    match i with
    | 0 => cases g1; cases g2; exact hu.mono hle2
    | 1 => cases g1; cases g2; exact hx
    | i + 2 => cases g1
  · obtain ⟨o1, g1, g2⟩ := hm b hb
    exact ⟨o1, (hk4.heap _ (hT _ hb)).trans g1, g2⟩
  · rw [results_E _ R O h8 h9]
    have e1 : (loadVar 22 ⟨R, 0, none⟩).run Tryz.prog w4 = .ok v w4 := run_loadVar_one ((hk4.heap R (hT R hTR)).trans hR) Tryz.underlying22 rfl
    have e2 : (loadVar 4 ⟨O, 0, none⟩).run Tryz.prog w4 = .ok (.bool ok) w4 := run_loadVar_one ((hk4.heap O (hT O hTO)).trans hO) Tryz.underlying4 rfl
    simp [e1, e2]
end
theorem infoV : (Tryz.prog.info? 22).map (·.zero) = some (some (.slice none 0 0)) := by kernel_rfl
theorem infoO : (Tryz.prog.info? 4).map (·.zero) = some (some (.bool false)) := by kernel_rfl
section
variable {Sh : Nat → Prop} {Stop : (Nat → Prop) → Goroutine → World → Prop} {M : Nat → Prop} {w : World}
set_option maxHeartbeats 4000000 in
theorem seal_first (kp np ap bp : Option Addr) (kn kc nn nc an ac bn bc : Nat) (c : Frame) (cs : List Frame) (hM : ∀ b, M b → b < w.heap.size) (hSw : ∀ b, Sh b → b < w.heap.size)
    (no : ∀ w2 M', ¬ SizesOk kn nn an bn → Keeps M w w2 → (∀ b, M b → M' b) → (∀ b, M' b → M b ∨ w.heap.size ≤ b) → (∀ b, M' b → b < w2.heap.size) → Co Tryz.prog true Sh Stop M' (G (c.finish (.tuple #[.slice none 0 0, .bool false])) cs) w2)
    (yes : ∀ w2 R O, SizesOk kn nn an bn → Keeps M w w2 → w.heap.size ≤ R → R < O → O < w2.heap.size → w2.heap[R]? = some (.cells #[.slice none 0 0] 22 (0, 0)) → w2.heap[O]? = some (.cells #[.bool false] 4 (0, 0)) →
      Co Tryz.prog true Sh Stop (fun b => (M b ∨ b = R) ∨ b = O) (G (Frame.enter Tryz.prog 72 #[.slice kp kn kc, .int .i64 1, .slice np nn nc, .slice bp bn bc] .normal) (strE (.slice kp kn kc) (.slice np nn nc) (.slice ap an ac) bp bn bc R O undef [3, 4] :: c :: cs)) w2) :
    Co Tryz.prog true Sh Stop M (G (Frame.enter Tryz.prog 38 #[.slice kp kn kc, .slice np nn nc, .slice ap an ac, .slice bp bn bc] .normal) (c :: cs)) w := by
  obtain ⟨ti, hti, hz⟩ := Option.map_eq_some_iff.1 infoV
  obtain ⟨to, hto, hzo⟩ := Option.map_eq_some_iff.1 infoO
  simp only [strE, ops3E, tailE, waitE, bodyE, Tryz.f38, Option.getD_some] at yes
  rw [enter_E]
  simp only [bodyE, Tryz.f38, Option.getD_some]
  walk_nrm
  iterate 2 (with_reducible refine Co.ctlG (fun _ => by first | exact stepG_seq | exact stepG_skip | exact stepG_block | exact stepG_loop | exact stepG_inLoop | exact stepG_inBlock | exact stepG_region_end | exact stepG_region) ?_)
  refine Co.allocOne rfl rfl (by decide) rfl hti hz rfl hM fun w1 hk1 => ?_
  walk_nrm
  have z1 := hk1.size
  have hM1 : ∀ b, (M b ∨ b = w1.heap.size) → b < (w1.heap.push (.cells #[.slice none 0 0] 22)).size := fun b hb => by
    simp only [Array.size_push]
    rcases hb with hb | hb
    · have := hM b hb; omega
    · omega
  refine Co.allocOne rfl rfl (by decide) rfl hto hzo rfl hM1 fun w2 hk2 => ?_
  walk_nrm
  have z2 := hk2.size
  simp only [Array.size_push] at z2
  obtain ⟨R, hRe⟩ : ∃ R, R = w1.heap.size := ⟨_, rfl⟩
  obtain ⟨O, hOe⟩ : ∃ O, O = w2.heap.size := ⟨_, rfl⟩
  obtain ⟨W, hW⟩ : ∃ W : World, W = { w2 with heap := w2.heap.push (.cells #[.bool false] 4) } := ⟨_, rfl⟩
  have zW : W.heap.size = w2.heap.size + 1 := by rw [hW]; simp
  have hOW : W.heap[O]? = some (.cells #[.bool false] 4 (0, 0)) := by rw [hW, hOe]; simp
  have hold : ∀ b, b < w2.heap.size → W.heap[b]? = w2.heap[b]? := fun b hb => by rw [hW]; show (w2.heap.push _)[b]? = _; rw [Array.getElem?_push_lt hb, ← Array.getElem?_eq_getElem hb]
  have hRW : W.heap[R]? = some (.cells #[.slice none 0 0] 22 (0, 0)) := by
    rw [hold R (by omega), hk2.heap R (.inr hRe), hRe]
    show (w1.heap.push _)[w1.heap.size]? = _
    simp
  have hKW : Keeps M w W := ⟨fun b hb => by
    have h0 := hM b hb
    rw [hold b (by omega), hk2.heap b (.inl hb)]
    show (w1.heap.push _)[b]? = _
    rw [Array.getElem?_push_lt (by omega), ← Array.getElem?_eq_getElem (by omega), hk1.heap b hb], by omega, by rw [hW]; exact hk2.os.trans hk1.os, by rw [hW]; exact hk2.output.trans hk1.output, by rw [hW]; exact hk2.tape.trans hk1.tape⟩
  rw [← hW, ← hRe, ← hOe]
  have hRO : R < O := by omega
  have hRw : w.heap.size ≤ R := by omega
  have hOl : O < W.heap.size := by omega
  have hMW : ∀ b, ((M b ∨ b = R) ∨ b = O) → b < W.heap.size := fun b hb => by
    rcases hb with (hb | hb) | hb
    · have := hM b hb; omega
    · omega
    · omega
  have hSR : ¬ Sh R := fun h => by have := hSw R h; omega
  have hSO : ¬ Sh O := fun h => by have := hSw O h; omega
  have hSW : ∀ b, Sh b → b < W.heap.size := fun b hb => by have := hSw b hb; omega
  clear hold hk1 hk2 hM1 hti hz hto hzo zW hW hRe hOe z1 z2
  iterate 3 (with_reducible refine Co.ctlG (fun _ => by first | exact stepG_seq | exact stepG_skip | exact stepG_block | exact stepG_loop | exact stepG_inLoop | exact stepG_inBlock | exact stepG_region_end | exact stepG_region) ?_)
  refine Co.value (v := .func (.func 70) #[] #[.pointer (some ⟨R, 0, none⟩), .pointer (some ⟨O, 0, none⟩)]) rfl rfl (by decide) (fun _ => by simp [go_sem, execOp, Act.eval, Instr.makeFunc]) (fun _ => by first | rfl | kernel_rfl | simp [go_sem, execOp, Act.eval, Instr.makeFunc]) ?_
  walk_nrm
  refine Co.ctlG (fun _ => stepG_deferV (f := 70) (cap := #[.pointer (some ⟨R, 0, none⟩), .pointer (some ⟨O, 0, none⟩)]) rfl rfl (by decide) rfl rfl) ?_
  walk_nrm
  iterate 3 (with_reducible refine Co.ctlG (fun _ => by first | exact stepG_seq | exact stepG_skip | exact stepG_block | exact stepG_loop | exact stepG_inLoop | exact stepG_inBlock | exact stepG_region_end | exact stepG_region) ?_)
  refine Co.value (v := .slice kp kn kc) rfl rfl (by decide) (fun _ => by simp [go_sem, execOp, Act.eval]) (fun _ => by simp [go_sem, execOp, Act.eval]) ?_
  walk_nrm
  refine Co.value (v := .slice np nn nc) rfl rfl (by decide) (fun _ => by simp [go_sem, execOp, Act.eval]) (fun _ => by simp [go_sem, execOp, Act.eval]) ?_
  walk_nrm
  refine Co.value (v := .slice ap an ac) rfl rfl (by decide) (fun _ => by simp [go_sem, execOp, Act.eval]) (fun _ => by simp [go_sem, execOp, Act.eval]) ?_
  walk_nrm
  refine Co.value (v := .slice bp bn bc) rfl rfl (by decide) (fun _ => by simp [go_sem, execOp, Act.eval]) (fun _ => by simp [go_sem, execOp, Act.eval]) ?_
  walk_nrm
  refine Co.value (v := .int .i64 bn) rfl rfl (by decide) (fun _ => by simp [go_sem, execOp, Act.eval]) (fun _ => by simp [go_sem, execOp, Act.eval]) ?_
  walk_nrm
  refine Co.call rfl rfl (by decide) rfl Tryz.func71 (by kernel_rfl) (by kernel_rfl) ?_
  walk_nrm
  refine sizes_R kp np ap kn kc nn nc an ac (bn : Int) _ _ rfl (fun hok => ?_) (fun hno s => ?_)
  · rw [Frame.finish_at]
    walk_nrm
    iterate 3 (with_reducible refine Co.ctlG (fun _ => by first | exact stepG_seq | exact stepG_skip | exact stepG_block | exact stepG_loop | exact stepG_inLoop | exact stepG_inBlock | exact stepG_region_end | exact stepG_region) ?_)
    refine Co.value (v := .slice kp kn kc) rfl rfl (by decide) (fun _ => by simp [go_sem, execOp, Act.eval]) (fun _ => by simp [go_sem, execOp, Act.eval]) ?_
    walk_nrm
    refine Co.value (v := .slice np nn nc) rfl rfl (by decide) (fun _ => by simp [go_sem, execOp, Act.eval]) (fun _ => by simp [go_sem, execOp, Act.eval]) ?_
    walk_nrm
    refine Co.value (v := .slice bp bn bc) rfl rfl (by decide) (fun _ => by simp [go_sem, execOp, Act.eval]) (fun _ => by simp [go_sem, execOp, Act.eval]) ?_
    walk_nrm
    refine Co.call rfl rfl (by decide) rfl Tryz.func72 (by kernel_rfl) (by kernel_rfl) ?_
    walk_nrm
    exact yes W R O hok hKW hRw hRO hOl hRW hOW
  · refine Co.ctlG (fun _ => unwindE (R := R) (O := O) (by simp) rfl) ?_
    refine closeS_pan R O s false _ _ rfl hRW hOW (by omega) (.inl (.inr rfl)) (.inr rfl) hSR hSO hSW hMW fun w5 h1 h2 h3 h4 h5 h6 h7 => ?_
    refine out_E _ _ R O (.slice none 0 0) false (fun b => b = R ∨ b = O) c cs rfl rfl h1 h2 (fun b hb => ?_) (.inl rfl) (.inr rfl) (fun b hs hb => ?_) (fun b hb => by have := hSW b hb; omega) (fun b hb => ?_) (no w5 _ hno ⟨fun b hb => ?_, ?_, h5.trans hKW.os, h6.trans hKW.output, h7.trans hKW.tape⟩ (fun b hb => .inl (.inl hb)) (fun b hb => ?_) (fun b hb => by have := hMW b hb; omega))
    · rcases hb with hb | hb
      · exact .inl (.inr hb)
      · exact .inr hb
    · rcases hb with hb | hb
      · exact hSR (hb ▸ hs)
      · exact hSO (hb ▸ hs)
    · rcases hb with hb | hb
      · rw [hb]
        exact ⟨_, h1, relO_flatF fun v hv => by rw [Array.mem_singleton.1 hv]; rfl⟩
      · rw [hb]
        exact ⟨_, h2, relO_flatF fun v hv => by rw [Array.mem_singleton.1 hv]; rfl⟩
    · have h0 := hM b hb
      rw [h3 b (.inl (.inl hb)) (by omega) (by omega), hKW.heap b hb]
    · have := hKW.size
      omega
    · rcases hb with (hb | hb) | hb
      · exact .inl hb
      · exact .inr (by omega)
      · exact .inr (by omega)
end
noncomputable def ops4E : Array Oper := match tailE with | .seq (.region _ o _) _ => o | _ => #[]
noncomputable def tagE (k n a : Value) (bp : Option Addr) (bn bc R O : Nat) (s v27 : Value) (l : List Nat) : Frame := bE.at ⟨#[k, n, a, .slice bp bn bc, undef, undef, undef, undef, .pointer (some ⟨R, 0, none⟩), .pointer (some ⟨O, 0, none⟩), s, .func (.func 70) #[] #[.pointer (some ⟨R, 0, none⟩), .pointer (some ⟨O, 0, none⟩)], k, n, a, .slice bp bn bc, .int .i64 bn, undef, k, n, .slice bp bn bc, s, s, k, n, a, s, v27, undef, undef], waitE R O⟩ [.inRegion ops4E l, .code .ret]
noncomputable def catE (k n a : Value) (bp : Option Addr) (bn bc R O : Nat) (s v27 : Value) (β : Nat) (v29 : Value) (l : List Nat) : Frame := bE.at ⟨#[k, n, a, .slice bp bn bc, undef, undef, undef, undef, .pointer (some ⟨R, 0, none⟩), .pointer (some ⟨O, 0, none⟩), s, .func (.func 70) #[] #[.pointer (some ⟨R, 0, none⟩), .pointer (some ⟨O, 0, none⟩)], k, n, a, .slice bp bn bc, .int .i64 bn, undef, k, n, .slice bp bn bc, s, s, k, n, a, s, v27, .slice (some ⟨β, 0, none⟩) 2 2, v29], waitE R O⟩ [.inRegion ops4E l, .code .ret]
section
variable {Sh : Nat → Prop} {Stop : (Nat → Prop) → Goroutine → World → Prop} {M N : Nat → Prop} {w : World}
set_option maxHeartbeats 4000000 in
theorem seal_second (k n a : Value) (bp : Option Addr) (bn bc R O : Nat) (s : Value) (cs : List Frame) (next : Co Tryz.prog true Sh Stop M (G (Frame.enter Tryz.prog 73 #[k, n, a, s] .normal) (tagE k n a bp bn bc R O s undef [5, 6, 7, 8, 9] :: cs)) w) :
    Co Tryz.prog true Sh Stop M (G ((strE k n a bp bn bc R O undef [3, 4]).finish s) cs) w := by
  simp only [tagE, ops4E, tailE, waitE, bodyE, Tryz.f38, Option.getD_some] at next
  simp only [strE, ops3E, tailE, waitE, bodyE, Tryz.f38, Option.getD_some]
  rw [Frame.finish_at]
  walk_nrm
  refine Co.value (v := s) rfl rfl (by decide) (fun _ => by simp [go_sem, execOp, Act.eval]) (fun _ => by simp [go_sem, execOp, Act.eval]) ?_
  walk_nrm
  iterate 3 (with_reducible refine Co.ctlG (fun _ => by first | exact stepG_seq | exact stepG_skip | exact stepG_block | exact stepG_loop | exact stepG_inLoop | exact stepG_inBlock | exact stepG_region_end | exact stepG_region) ?_)
  refine Co.value (v := s) rfl rfl (by decide) (fun _ => by simp [go_sem, execOp, Act.eval]) (fun _ => by simp [go_sem, execOp, Act.eval]) ?_
  walk_nrm
  refine Co.value (v := k) rfl rfl (by decide) (fun _ => by simp [go_sem, execOp, Act.eval]) (fun _ => by simp [go_sem, execOp, Act.eval]) ?_
  walk_nrm
  refine Co.value (v := n) rfl rfl (by decide) (fun _ => by simp [go_sem, execOp, Act.eval]) (fun _ => by simp [go_sem, execOp, Act.eval]) ?_
  walk_nrm
  refine Co.value (v := a) rfl rfl (by decide) (fun _ => by simp [go_sem, execOp, Act.eval]) (fun _ => by simp [go_sem, execOp, Act.eval]) ?_
  walk_nrm
  refine Co.value (v := s) rfl rfl (by decide) (fun _ => by simp [go_sem, execOp, Act.eval]) (fun _ => by simp [go_sem, execOp, Act.eval]) ?_
  walk_nrm
  refine Co.call rfl rfl (by decide) rfl Tryz.func73 (by kernel_rfl) (by kernel_rfl) ?_
  walk_nrm
  exact next
end
section
variable {Sh : Nat → Prop} {Stop : (Nat → Prop) → Goroutine → World → Prop} {M : Nat → Prop} {w : World}
set_option maxHeartbeats 4000000 in
theorem seal_fourth (k n a : Value) (bp : Option Addr) (bn bc R O : Nat) (s v27 : Value) (β γ rn rc : Nat) (row : Array Value) (e : TypeId) (fz : Nat × Nat) (c : Frame) (cs : List Frame) (hγ : w.heap[γ]? = some (.cells row e fz)) (hrow : ∀ v ∈ row, flatC v = true) (hR : w.heap[R]? = some (.cells #[.slice none 0 0] 22 (0, 0))) (hO : w.heap[O]? = some (.cells #[.bool false] 4 (0, 0)))
    (hRO : R ≠ O) (hγR : γ ≠ R) (hγO : γ ≠ O) (hMR : M R) (hMO : M O) (hMγ : M γ) (hS : ∀ b, Sh b → b ≠ R ∧ b ≠ O ∧ b ≠ γ) (hSw : ∀ b, Sh b → b < w.heap.size) (hlow : ∀ b, M b → b < w.heap.size)
    (next : ∀ w2, (∀ b, M b → b ≠ R → b ≠ O → w2.heap[b]? = w.heap[b]?) → w.heap.size ≤ w2.heap.size → w2.os = w.os → w2.output = w.output → w2.tape = w.tape → Co Tryz.prog true Sh Stop M (G (c.finish (.tuple #[.slice (some ⟨γ, 0, none⟩) rn rc, .bool true])) cs) w2) :
    Co Tryz.prog true Sh Stop M (G ((catE k n a bp bn bc R O s v27 β undef [7, 8, 9]).finish (.slice (some ⟨γ, 0, none⟩) rn rc)) (c :: cs)) w := by
  simp only [catE, ops4E, tailE, waitE, bodyE, Tryz.f38, Option.getD_some]
  rw [Frame.finish_at]
  walk_nrm
  have mine : ∀ (N : Nat → Prop) (W : World) b, (N b → (W.heap[b]? = some (.cells #[.slice none 0 0] 22 (0, 0)) ∨ W.heap[b]? = some (.cells row e fz))) → N b → ∃ o, W.heap[b]? = some o ∧ RelO (idr N 0 fun _ => False) 0 o o := fun N W b h hb => by
    rcases h hb with h | h
    · exact ⟨_, h, relO_flatF fun v hv => by rw [Array.mem_singleton.1 hv]; rfl⟩
    · exact ⟨_, h, relO_flatF hrow⟩
  refine Co.storeOne (N := fun b => b = R ∨ b = γ) (β := R) (z := .slice none 0 0) (v := .slice (some ⟨γ, 0, none⟩) rn rc) (e := 22) rfl rfl (by decide) rfl rfl rfl hR (.inl rfl) (fun b hb => hb.elim (fun h => h ▸ hMR) fun h => h ▸ hMγ) (fun b hs hb => hb.elim (hS b hs).1 (hS b hs).2.2) hSw hlow (.slice _ _ ⟨⟨rfl, .inr rfl⟩, rfl, rfl, fun _ => rfl, Nat.zero_le _⟩) rfl (by kernel_rfl) (fun b hb => mine _ w b (fun h => h.elim (fun h => .inl (h ▸ hR)) fun h => .inr (h ▸ hγ)) hb) fun w1 hk1 => ?_
  walk_nrm
  have z1 := hk1.size
  have zs : (w1.setRow R #[.slice (some ⟨γ, 0, none⟩) rn rc]).heap.size = w1.heap.size := by simp [World.setRow]
  have hO1 : (w1.setRow R #[.slice (some ⟨γ, 0, none⟩) rn rc]).heap[O]? = some (.cells #[.bool false] 4 (0, 0)) := (setRow_other _ _ _ _ hRO.symm).trans ((hk1.heap O hMO).trans hO)
  refine Co.storeOne (N := fun b => b = O) (β := O) (z := .bool false) (v := .bool true) (e := 4) rfl rfl (by decide) rfl rfl rfl hO1 rfl (fun b hb => hb ▸ hMO) (fun b hs hb => (hS b hs).2.1 hb) (fun b hb => by have := hSw b hb; omega) (fun b hb => by have := hlow b hb; omega) (.bool true) rfl (by kernel_rfl) (mine_one hO1 rfl) fun w3 hk3 => ?_
  walk_nrm
  have z3 := hk3.size
  have hR1 : (w1.setRow R #[.slice (some ⟨γ, 0, none⟩) rn rc]).heap[R]? = some (.cells #[.slice (some ⟨γ, 0, none⟩) rn rc] 22 (0, 0)) := setRow_heap _ _ _ _ _ _ ((hk1.heap R hMR).trans hR)
  obtain ⟨W, hW⟩ : ∃ W, W = w3.setRow O #[.bool true] := ⟨_, rfl⟩
  have hRW : W.heap[R]? = some (.cells #[.slice (some ⟨γ, 0, none⟩) rn rc] 22 (0, 0)) := by rw [hW]; exact (setRow_other _ _ _ _ hRO).trans ((hk3.heap R hMR).trans hR1)
  have hOW : W.heap[O]? = some (.cells #[.bool true] 4 (0, 0)) := by rw [hW]; exact setRow_heap _ _ _ _ _ _ ((hk3.heap O hMO).trans hO1)
  have hold : ∀ b, M b → b ≠ R → b ≠ O → W.heap[b]? = w.heap[b]? := fun b hb h1 h2 => by rw [hW, setRow_other _ _ _ _ h2, hk3.heap b hb, setRow_other _ _ _ _ h1, hk1.heap b hb]
  have zW : w.heap.size ≤ W.heap.size := by
    have : W.heap.size = w3.heap.size := by rw [hW]; simp [World.setRow]
    omega
  have hos : W.os = w.os := by rw [hW]; exact hk3.os.trans hk1.os
  have hout : W.output = w.output := by rw [hW]; exact hk3.output.trans hk1.output
  have htp : W.tape = w.tape := by rw [hW]; exact hk3.tape.trans hk1.tape
  rw [← hW]
  (with_reducible refine Co.ctlG (fun _ => by first | exact stepG_seq | exact stepG_skip | exact stepG_block | exact stepG_loop | exact stepG_inLoop | exact stepG_inBlock | exact stepG_region_end | exact stepG_region) ?_)
  refine Co.ctlG (fun _ => stepG_ret') ?_
  refine Co.ctlG (fun _ => unwindE (R := R) (O := O) (by simp) rfl) ?_
  refine closeS_ret R O _ _ rfl ?_
  refine out_E _ _ R O (.slice (some ⟨γ, 0, none⟩) rn rc) true (fun b => b = R ∨ b = O ∨ b = γ) c cs rfl rfl hRW hOW (fun b hb => ?_) (.inl rfl) (.inr (.inl rfl)) (fun b hs hb => ?_) (fun b hb => by have := hSw b hb; omega) (fun b hb => ?_) (next W hold zW hos hout htp)
  · rcases hb with rfl | rfl | rfl
    · exact hMR
    · exact hMO
    · exact hMγ
  · rcases hb with h | h | h
    · exact (hS b hs).1 h
    · exact (hS b hs).2.1 h
    · exact (hS b hs).2.2 h
  · rcases hb with rfl | rfl | rfl
    · exact ⟨_, hRW, .cells _ rfl ⟨rfl, fun i v v' h1 h2 => by
        rw [h1] at h2
        cases h2
        match i, h1 with
        | 0, h1 => cases h1; exact .slice _ _ ⟨⟨rfl, .inr (.inr rfl)⟩, rfl, rfl, fun _ => rfl, Nat.zero_le _⟩⟩ fun i h1 h2 => ⟨h1, h2⟩⟩
    · exact ⟨_, hOW, relO_flatF fun v hv => by rw [Array.mem_singleton.1 hv]; rfl⟩
    · exact ⟨_, (hold _ hMγ hγR hγO).trans hγ, relO_flatF hrow⟩
end
section
variable {P : Program} {main : Bool} {Sh : Nat → Prop} {Stop : (Nat → Prop) → Goroutine → World → Prop} {M : Nat → Prop} {w : World} {b : Frame} {a : Act} {k : List Item} {cs : List Frame} {ops : Array Oper} {i : Nat} {rest : List Nat} {o : Oper}
theorem Co.makes {v : Nat → Value} {ob : Obj} (ho : ops[i]? = some o) (hw : Region.wanted o (yielded ops a.tmps) = true) (hk : b.kind ≠ .early) (hr : ∀ w1 : World, (execOp a.eval o).run P w1 = .ok (.value (v w1.heap.size)) { w1 with heap := w1.heap.push ob }) (he : ∀ w1, (execOp a.eval o).events P w1 #[] = #[]) (hM : ∀ b, M b → b < w.heap.size)
    (next : ∀ w1, Keeps M w w1 → Co P main Sh Stop (fun b => M b ∨ b = w1.heap.size) (G (b.at (a.put o.dst (v w1.heap.size)) (.inRegion ops rest :: k)) cs) { w1 with heap := w1.heap.push ob }) : Co P main Sh Stop M (G (b.at a (.inRegion ops (i :: rest) :: k)) cs) w :=
  Co.alloc (g' := fun n => G (b.at (a.put o.dst (v n)) (.inRegion ops rest :: k)) cs) rfl (fun w1 _ => ⟨#[], by rw [stepG_value ho hw hk (hr w1)]; unfold listed; rw [he w1, seen_none], by simp⟩) hM next
end
theorem infoY : (Tryz.prog.info? 22).map (fun i => (i.zero, i.size)) = some (some (.slice none 0 0), 1) := by kernel_rfl
section
variable {Sh : Nat → Prop} {Stop : (Nat → Prop) → Goroutine → World → Prop} {M : Nat → Prop} {w : World}
set_option maxHeartbeats 4000000 in
theorem seal_third (k n a : Value) (bp : Option Addr) (bn bc R O : Nat) (sp tp : Option Addr) (sn sc tn tc : Nat) (cs : List Frame) (hM : ∀ b, M b → b < w.heap.size)
    (next : ∀ w1, Keeps M w w1 → Co Tryz.prog true Sh Stop (fun b => M b ∨ b = w1.heap.size) (G (Frame.enter Tryz.prog 68 #[.slice (some ⟨w1.heap.size, 0, none⟩) 2 2] .normal) (catE k n a bp bn bc R O (.slice sp sn sc) (.slice tp tn tc) w1.heap.size undef [7, 8, 9] :: cs)) { w1 with heap := w1.heap.push (.cells #[.slice sp sn sc, .slice tp tn tc] 22) }) :
    Co Tryz.prog true Sh Stop M (G ((tagE k n a bp bn bc R O (.slice sp sn sc) undef [5, 6, 7, 8, 9]).finish (.slice tp tn tc)) cs) w := by
  obtain ⟨ti, hti, hz⟩ := Option.map_eq_some_iff.1 infoY
  simp only [Prod.mk.injEq] at hz
  simp only [catE, ops4E, tailE, waitE, bodyE, Tryz.f38, Option.getD_some] at next
  simp only [tagE, ops4E, tailE, waitE, bodyE, Tryz.f38, Option.getD_some]
  rw [Frame.finish_at]
  walk_nrm
  have hr : ∀ w1, (Instr.buildSlice 104 2 #[(0, .slice sp sn sc), (1, .slice tp tn tc)]).run Tryz.prog w1 = .ok (.slice (some ⟨w1.heap.size, 0, none⟩) 2 2) { w1 with heap := w1.heap.push (.cells #[.slice sp sn sc, .slice tp tn tc] 22) } := fun w1 =>
    run_buildSlice w1 104 22 2 _ _ ti (.slice none 0 0) Tryz.underlying104 hti hz.1 (by rw [hz.2]; decide) (by rw [hz.2]; decide) (by rw [hz.2]; kernel_rfl)
  have hf2 : Instr.fill (fun i => some (i, 1)) (Array.map (fun x => (Value.slice none 0 0).cells[x % (Value.slice none 0 0).cells.size]!) (Array.range 2)) [(0, .slice sp sn sc), (1, .slice tp tn tc)] = some #[.slice sp sn sc, .slice tp tn tc] := by kernel_rfl
  refine Co.makes (v := fun m => .slice (some ⟨m, 0, none⟩) 2 2) (ob := .cells #[.slice sp sn sc, .slice tp tn tc] 22) rfl rfl (by decide) (fun w1 => by simp [execOp, Act.eval, hr]) (fun w1 => by simp [execOp, Act.eval, Instr.buildSlice, sizeOf, typeInfo, zeroValue, run_underlying Tryz.underlying104, hti, hz.1, hz.2, newRow, hf2]) hM fun w1 hk1 => ?_
  walk_nrm
  refine Co.call rfl rfl (by decide) rfl Tryz.func68 (by kernel_rfl) (by kernel_rfl) ?_
  walk_nrm
  exact next w1 hk1
end
end Go.Proofs.YtnpffnhiefgglaaGreatDoor
namespace Go.Proofs.YtnpffnhiefgglaaGreatDoor
open Go.RowKit
set_option maxRecDepth 100000
theorem i64_mask (a : Int) (e : Nat) (m : Int) (hm : m = ((2 ^ e - 1 : Nat) : Int)) (he : e ≤ 62) : bits .and .i64 a m = a % ((2 ^ e : Nat) : Int) := by
  have hp : 2 ^ e ≤ 2 ^ 62 := Nat.pow_le_pow_right (by decide) he
  have h0 : 0 < 2 ^ e := Nat.two_pow_pos e
  have eb : (BitVec.ofInt 64 m).toNat = 2 ^ e - 1 := by
    rw [BitVec.toNat_ofInt, hm]
    omega
  have ea : (BitVec.ofInt 64 a).toNat = (a % 18446744073709551616).toNat := by rw [BitVec.toNat_ofInt]; rfl
  have ed : (18446744073709551616 : Int) = ((2 ^ e : Nat) : Int) * ((2 ^ (64 - e) : Nat) : Int) := by
    rw [← Int.natCast_mul, ← Nat.pow_add, show e + (64 - e) = 64 by omega]
    rfl
  have : (BitVec.ofInt 64 a &&& BitVec.ofInt 64 m).toNat = (a % 18446744073709551616).toNat % 2 ^ e := by
    rw [BitVec.toNat_and, ea, eb, Nat.and_two_pow_sub_one_eq_mod]
  show IntKind.i64.wrap ((BitVec.ofInt 64 a &&& BitVec.ofInt 64 m).toNat : Int) = _
  have hlt : (a % 18446744073709551616).toNat % 2 ^ e < 2 ^ e := Nat.mod_lt _ h0
  have e2 : (((a % 18446744073709551616).toNat % 2 ^ e : Nat) : Int) = a % ((2 ^ e : Nat) : Int) := by
    rw [Int.natCast_emod, Int.toNat_of_nonneg (Int.emod_nonneg _ (by decide)), ed, Int.emod_emod_of_dvd _ (Int.dvd_mul_right _ _)]
  rw [this, IntKind.wrap_i64]
  rw [← e2]
  omega
theorem i64_mask32 (a : Int) : bits .and .i64 a 4294967295 = a % 4294967296 := i64_mask a 32 _ rfl (by decide)
theorem i64_mask31 (a : Int) : bits .and .i64 a 31 = a % 32 := i64_mask a 5 _ rfl (by decide)
theorem u64_mask31 (k : Int) : bits .and .u64 (IntKind.u64.wrap k) 31 = k % 32 := by
  have ew : IntKind.u64.wrap k = k % 18446744073709551616 := by rw [IntKind.wrap_u64]
  have ea : (BitVec.ofInt 64 (k % 18446744073709551616)).toNat = (k % 18446744073709551616).toNat := by rw [BitVec.toNat_ofInt]; omega
  have : (BitVec.ofInt 64 (k % 18446744073709551616) &&& BitVec.ofInt 64 31).toNat = (k % 18446744073709551616).toNat % 32 := by
    rw [BitVec.toNat_and, ea]
    show _ &&& (2 ^ 5 - 1) = _
    rw [Nat.and_two_pow_sub_one_eq_mod]
  rw [ew]
  show IntKind.u64.wrap ((BitVec.ofInt 64 (k % 18446744073709551616) &&& BitVec.ofInt 64 31).toNat : Int) = _
  rw [this, IntKind.wrap_u64]
  omega
def turnN (x m : Nat) : Nat := 2 ^ m * (x % 2 ^ (32 - m)) + x / 2 ^ (32 - m)
theorem turn_hi {x m : Nat} (hx : x < 4294967296) (hm : m < 32) : x / 2 ^ (32 - m) < 2 ^ m := by
  rw [Nat.div_lt_iff_lt_mul (Nat.two_pow_pos _), ← Nat.pow_add, show m + (32 - m) = 32 by omega]
  exact hx
theorem turn_lt {x m : Nat} (hx : x < 4294967296) (hm : m < 32) : turnN x m < 4294967296 := by
  have h1 := turn_hi hx hm
  have h2 : x % 2 ^ (32 - m) < 2 ^ (32 - m) := Nat.mod_lt _ (Nat.two_pow_pos _)
  have h3 : 2 ^ m * (x % 2 ^ (32 - m) + 1) ≤ 2 ^ m * 2 ^ (32 - m) := Nat.mul_le_mul_left _ h2
  rw [← Nat.pow_add, show m + (32 - m) = 32 by omega, Nat.mul_add] at h3
  unfold turnN
  omega
theorem turn_or {x m : Nat} (hx : x < 4294967296) (hm : m < 32) : (x * 2 ^ m % 4294967296 ||| x / 2 ^ (32 - m)) = turnN x m := by
  have e : x * 2 ^ m % 4294967296 = 2 ^ m * (x % 2 ^ (32 - m)) := by
    rw [show (4294967296 : Nat) = 2 ^ m * 2 ^ (32 - m) by rw [← Nat.pow_add, show m + (32 - m) = 32 by omega], Nat.mul_comm x, Nat.mul_mod_mul_left]
  rw [e, turnN, Nat.two_pow_add_eq_or_of_lt (turn_hi hx hm)]
theorem turn_or' {x m : Nat} (hx : x < 4294967296) (hm : m < 32) : (x * 2 ^ m ||| x / 2 ^ (32 - m)) % 4294967296 = turnN x m := by
  rw [← turn_or hx hm]
  show (_ ||| _) % 2 ^ 32 = (_ % 2 ^ 32 ||| _)
  rw [Nat.or_mod_two_pow]
  congr 1
  exact Nat.mod_eq_of_lt (Nat.lt_of_le_of_lt (Nat.div_le_self _ _) hx)
theorem bv64_nat {a : Nat} (h : a < 18446744073709551616) : (BitVec.ofInt 64 (a : Int)).toNat = a := by rw [BitVec.toNat_ofInt]; omega
theorem bv32_nat {a : Nat} (h : a < 4294967296) : (BitVec.ofInt 32 (a : Int)).toNat = a := by rw [BitVec.toNat_ofInt]; omega
theorem i64_or (a b : Nat) (h1 : a < 9223372036854775808) (h2 : b < 9223372036854775808) : bits .or .i64 (a : Int) (b : Int) = ((a ||| b : Nat) : Int) := by
  have hlt : (a ||| b) < 2 ^ 63 := Nat.or_lt_two_pow h1 h2
  have : (BitVec.ofInt 64 (a : Int) ||| BitVec.ofInt 64 (b : Int)).toNat = (a ||| b) := by rw [BitVec.toNat_or, bv64_nat (by omega), bv64_nat (by omega)]
  show IntKind.i64.wrap ((BitVec.ofInt 64 (a : Int) ||| BitVec.ofInt 64 (b : Int)).toNat : Int) = _
  rw [this, IntKind.wrap_i64]
  omega
theorem u32_or (a b : Nat) (h1 : a < 4294967296) (h2 : b < 4294967296) : bits .or .u32 (a : Int) (b : Int) = ((a ||| b : Nat) : Int) := by
  have hlt : (a ||| b) < 2 ^ 32 := Nat.or_lt_two_pow h1 h2
  have : (BitVec.ofInt 32 (a : Int) ||| BitVec.ofInt 32 (b : Int)).toNat = (a ||| b) := by rw [BitVec.toNat_or, bv32_nat h1, bv32_nat h2]
  show IntKind.u32.wrap ((BitVec.ofInt 32 (a : Int) ||| BitVec.ofInt 32 (b : Int)).toNat : Int) = _
  rw [this, IntKind.wrap_u32]
  omega
theorem turn_u32 {x m : Nat} (hx : x < 4294967296) (hm : m < 32) : bits .or .u32 ((x : Int) * 2 ^ m % 4294967296) ((x : Int) / 2 ^ (32 - m)) = ((turnN x m : Nat) : Int) := by
  have e1 : (x : Int) * 2 ^ m % 4294967296 = ((x * 2 ^ m % 4294967296 : Nat) : Int) := by simp
  have e2 : (x : Int) / 2 ^ (32 - m) = ((x / 2 ^ (32 - m) : Nat) : Int) := by simp
  rw [e1, e2, u32_or _ _ (Nat.mod_lt _ (by decide)) (Nat.lt_of_le_of_lt (Nat.div_le_self _ _) hx), turn_or hx hm]
theorem turn_i64 {x m : Nat} (hx : x < 4294967296) (hm : m < 32) : bits .or .i64 ((x : Int) * 2 ^ m) ((x : Int) / 2 ^ (32 - m)) % 4294967296 = ((turnN x m : Nat) : Int) := by
  have e1 : (x : Int) * 2 ^ m = ((x * 2 ^ m : Nat) : Int) := by simp
  have e2 : (x : Int) / 2 ^ (32 - m) = ((x / 2 ^ (32 - m) : Nat) : Int) := by simp
  have hb : x * 2 ^ m < 9223372036854775808 := by
    have h1 : 2 ^ m ≤ 2 ^ 31 := Nat.pow_le_pow_right (by decide) (by omega)
    have h2 : x * 2 ^ m ≤ 4294967295 * 2 ^ 31 := Nat.mul_le_mul (by omega) h1
    omega
  have hd : x / 2 ^ (32 - m) ≤ x := Nat.div_le_self _ _
  have e3 := turn_or' hx hm
  rw [e1, e2, i64_or _ _ hb (by omega)]
  generalize (x * 2 ^ m ||| x / 2 ^ (32 - m)) = q at e3 ⊢
  omega
theorem shl_small {x m : Nat} (hx : x < 4294967296) (hm : m < 32) : 0 ≤ (x : Int) * 2 ^ m ∧ (x : Int) * 2 ^ m ≤ 9223372036854775807 := by
  have e1 : (x : Int) * 2 ^ m = ((x * 2 ^ m : Nat) : Int) := by simp
  have h1 : 2 ^ m ≤ 2 ^ 31 := Nat.pow_le_pow_right (by decide) (by omega)
  have h2 : x * 2 ^ m ≤ 4294967295 * 2 ^ 31 := Nat.mul_le_mul (by omega) h1
  omega
def wordN (n : Int) : Nat := (n % 4294967296).toNat
theorem wordN_lt (n : Int) : wordN n < 4294967296 := by unfold wordN; omega
theorem wordN_eq (n : Int) : ((wordN n : Nat) : Int) = n % 4294967296 := by unfold wordN; omega
def countN (k : Int) : Nat := (k % 32).toNat
theorem countN_lt (k : Int) : countN k < 32 := by unfold countN; omega
theorem countN_eq (k : Int) : ((countN k : Nat) : Int) = k % 32 := by unfold countN; omega
def turnI (n k : Int) : Int := ((turnN (wordN n) (countN k) : Nat) : Int)
def IntsIn (w : World) (p : Option Addr) (n : Nat) (xs : List Int) : Prop :=
  0 < n → ∃ b o, p = some ⟨b, o, none⟩ ∧ ∀ i, i < n → w.cell? ⟨b, o + i, none⟩ = some (.int .i64 (xs.getD i 0))
theorem owns_inI {w : World} {base e : Nat} {p : Option Addr} {n c : Nat} {xs : List Int} (h : w.ownsRow base e 1 (.slice p n c) n (xs.map (Value.int .i64))) : IntsIn w p n xs := by
  intro hn
  rcases h.2 with ⟨_, h0⟩ | ⟨g, cap, cur, hv, _, _⟩
  · omega
  · simp only [Value.slice.injEq] at hv
    obtain ⟨rfl, _, rfl⟩ := hv
    refine ⟨g, 0, rfl, fun i hi => ?_⟩
    have hl := h.1
    simp only [List.length_map, Nat.mul_one] at hl
    have := h.cellAt i (by omega)
    simp only [Nat.zero_add]
    rw [this]
    simp [List.getElem?_eq_getElem (show i < xs.length by omega), List.getD]
theorem in_belowI {w w' : World} {p : Option Addr} {n : Nat} {xs : List Int} (h : IntsIn w p n xs) (hb : Below w.heap.size w w') : IntsIn w' p n xs := by
  intro hn
  obtain ⟨b, o, rfl, hc⟩ := h hn
  refine ⟨b, o, rfl, fun i hi => ?_⟩
  have hlt : b < w.heap.size := World.block_lt_of_cell? w ⟨b, o + i, none⟩ (hc i hi)
  rw [hb.cell (p := ⟨b, o + i, none⟩) hlt]
  exact hc i hi
theorem fill_stepI (xs : List Int) (n k : Nat) (u : Int) (hu : u = xs.getD k 0) (hk : k < n) (hx : xs.length = n) :
    ((xs.take k ++ List.replicate (n - k) 0).map (Value.int .i64)).set k (.int .i64 u) = (xs.take (k + 1) ++ List.replicate (n - (k + 1)) 0).map (Value.int .i64) := by
  subst hu
  simp only [List.getD_eq_getElem?_getD]
  apply List.ext_getElem
  · simp; omega
  · intro i h1 h2
    simp only [List.getElem_set, List.getElem_map]
    simp at h1 h2
    by_cases e : k = i
    · subst e
      simp [List.getElem_append, hx, hk]
      intro h; omega
    · simp only [e, if_false]
      by_cases hi : i < k
      · simp [List.getElem_append, hx]
        rw [dif_pos (by omega), dif_pos (by omega)]
      · simp [List.getElem_append, hx]
        rw [dif_neg (by omega), dif_neg (by omega)]
theorem fill_oldI (xs : List Int) (n k : Nat) (hk : k < n) (hx : xs.length = n) : ((xs.take k ++ List.replicate (n - k) 0).map (Value.int .i64))[k]? = some (.int .i64 0) := by
  rw [List.getElem?_eq_getElem (by simp; omega)]
  simp [List.getElem_append, hx]
  intro h; omega
theorem fill_startI (xs : List Int) (n : Nat) : (madeCells #[Value.int .i64 0] n).toList = (xs.take 0 ++ List.replicate (n - 0) 0).map (Value.int .i64) := by
  rw [toList_madeCells_one]
  simp
def marksI (k : Int) (n : Nat) : List Int := (List.range n).map fun (i : Nat) => (k + (i : Int))
def OwnI (e : Nat) (w : World) (lo hi : Nat) (v : Value) (n : Nat) (xs : List Int) : Prop := w.ownsRow lo e 1 v n (xs.map (Value.int .i64)) ∧ ∀ k, v.ownBlock = some k → k < hi
section
variable {e : Nat} {w w' a : World} {lo hi lo' hi' : Nat} {u v : Value} {n m : Nat} {xs ys : List Int}
theorem OwnI.of (h : w.ownsRow lo e 1 v n (xs.map (Value.int .i64))) : OwnI e w lo w.heap.size v n xs := ⟨h, fun k hk => (h.lt k hk).2⟩
theorem OwnI.on (h : OwnI e w lo hi v n xs) (hb : Below w.heap.size w w') : OwnI e w' lo hi v n xs := ⟨owns_below h.1 hb, h.2⟩
theorem OwnI.ints {p : Option Addr} {c : Nat} (h : OwnI e w lo hi (.slice p n c) n xs) : IntsIn w p n xs := owns_inI h.1
end
section
variable {P : Program} {e : TypeId} {i : TypeInfo} {base n : Nat} {wr : World} {v : Value} {xs : List Int}
theorem pushs_fitI {n m : Nat} (hn : n ≤ 1099511627776) (hm : m ≤ 1099511627776) : n + m ≤ maxLen ∧ (n + m) * 8 ≤ 140737488355328 := by unfold maxLen; omega
theorem step_pushsI {ops : Array Oper} {o : Oper} {a : Act} {K : Act → World → Prop} {Q : Exit → Act → World → Prop} {E : Prop} (hi : P.info? e = some i) (hz : i.zero = some (.int .i64 0)) (hsize : i.size = 1) (hby : i.bytes = 8)
    (s y : Operand) (t : TypeId) (ht : P.underlying t = some (.slice e)) (cs : Array Value) (ys : List Int) (hcs : cs.toList = ys.map (Value.int .i64)) (hm : 0 < ys.length) (hm' : ys.length ≤ 1099511627776)
    (hown : wr.ownsRow base e 1 v n (xs.map (Value.int .i64))) (hn : n ≤ 1099511627776) (hbase : base ≤ wr.heap.size)
    (hgd : o.guard = none) (ho : o.op = .call { callee := .builtin .append, args := #[s, y], argTypes := #[t, t] }) (hs : a.eval s = v) (hy : a.eval y = .slice (some ⟨wr.heap.size, 0, none⟩) ys.length ys.length)
    (h : ∀ g cap w', w'.ownsRow base e 1 (.slice (some ⟨g, 0, none⟩) (n + ys.length) cap) (n + ys.length) ((xs ++ ys).map (Value.int .i64)) → Below base wr w' → K (a.put o.dst (.slice (some ⟨g, 0, none⟩) (n + ys.length) cap)) w') :
    if Region.wanted o (yielded ops a.tmps) = true then Oper.wp P o a (wr.alloc (.cells cs e)).drew K Q else E := by
  refine step_append_lies _ hgd s y t ho base e i (.int .i64 0) 1 8 ht hi hz hsize hby rfl (by decide) v n (xs.map (Value.int .i64)) hs (hown.alloc _).drew ⟨wr.heap.size, 0, none⟩ ys.length ys.length (ys.map (Value.int .i64)) hy (by simp) ?_ (ints_oneCell _ _) hm (pushs_fitI hn hm').1 (pushs_fitI hn hm').2 (by simp; omega) _ rfl ?_
  · rw [← hcs]
    exact World.news_of_block (cs := cs) (heap_alloc_new wr _)
  · intro g cap w' h1 h2 _ _
    refine h g cap w' (by simpa using h1) (((Below.refl _ _).alloc hbase _).drew.grown h2 (by simp; omega) fun k hk => (hown.lt k hk).1)
theorem list_pushsI {ops : Array Oper} {rest : List Oper} {o : Oper} {a : Act} {Q : Exit → Act → World → Prop} (hi : P.info? e = some i) (hz : i.zero = some (.int .i64 0)) (hsize : i.size = 1) (hby : i.bytes = 8)
    (s y : Operand) (t : TypeId) (ht : P.underlying t = some (.slice e)) (cs : Array Value) (ys : List Int) (hcs : cs.toList = ys.map (Value.int .i64)) (hm : 0 < ys.length) (hm' : ys.length ≤ 1099511627776)
    (hown : wr.ownsRow base e 1 v n (xs.map (Value.int .i64))) (hn : n ≤ 1099511627776) (hbase : base ≤ wr.heap.size)
    (hgd : o.guard = none) (ho : o.op = .call { callee := .builtin .append, args := #[s, y], argTypes := #[t, t] }) (hs : a.eval s = v) (hy : a.eval y = .slice (some ⟨wr.heap.size, 0, none⟩) ys.length ys.length)
    (h : ∀ g cap w', w'.ownsRow base e 1 (.slice (some ⟨g, 0, none⟩) (n + ys.length) cap) (n + ys.length) ((xs ++ ys).map (Value.int .i64)) → Below base wr w' → wpList P ops Q rest (a.put o.dst (.slice (some ⟨g, 0, none⟩) (n + ys.length) cap)) w') :
    wpList P ops Q (o :: rest) a (wr.alloc (.cells cs e)) := by
  refine wpList_append_lies _ hgd s y t ho base e i (.int .i64 0) 1 8 ht hi hz hsize hby rfl (by decide) v n (xs.map (Value.int .i64)) hs (hown.alloc _) ⟨wr.heap.size, 0, none⟩ ys.length ys.length (ys.map (Value.int .i64)) hy (by simp) ?_ (ints_oneCell _ _) hm (pushs_fitI hn hm').1 (pushs_fitI hn hm').2 (by simp; omega) _ rfl ?_
  · rw [← hcs]
    exact World.news_of_block (cs := cs) (heap_alloc_new wr _)
  · intro g cap w' h1 h2 _ _
    refine h g cap w' (by simpa using h1) (((Below.refl _ _).alloc hbase _).grown h2 (by simp; omega) fun k hk => (hown.lt k hk).1)
theorem step_pushI {ops : Array Oper} {o : Oper} {a : Act} {K : Act → World → Prop} {Q : Exit → Act → World → Prop} {E : Prop} (hi : P.info? e = some i) (hz : i.zero = some (.int .i64 0)) (hsize : i.size = 1) (hby : i.bytes = 8)
    (s y : Operand) (t : TypeId) (ht : P.underlying t = some (.slice e)) (x : Int) (hown : wr.ownsRow base e 1 v n (xs.map (Value.int .i64))) (hn : n ≤ 1099511627776) (hbase : base ≤ wr.heap.size)
    (hgd : o.guard = none) (ho : o.op = .call { callee := .builtin .append, args := #[s, y], argTypes := #[t, t] }) (hs : a.eval s = v) (hy : a.eval y = .slice (some ⟨wr.heap.size, 0, none⟩) 1 1)
    (h : ∀ g cap w', w'.ownsRow base e 1 (.slice (some ⟨g, 0, none⟩) (n + 1) cap) (n + 1) ((xs ++ [x]).map (Value.int .i64)) → Below base wr w' → K (a.put o.dst (.slice (some ⟨g, 0, none⟩) (n + 1) cap)) w') :
    if Region.wanted o (yielded ops a.tmps) = true then Oper.wp P o a (wr.alloc (.cells #[.int .i64 x] e)).drew K Q else E :=
  step_pushsI hi hz hsize hby s y t ht #[.int .i64 x] [x] rfl (by simp) (by simp) hown hn hbase hgd ho hs hy h
theorem list_pushI {ops : Array Oper} {rest : List Oper} {o : Oper} {a : Act} {Q : Exit → Act → World → Prop} (hi : P.info? e = some i) (hz : i.zero = some (.int .i64 0)) (hsize : i.size = 1) (hby : i.bytes = 8)
    (s y : Operand) (t : TypeId) (ht : P.underlying t = some (.slice e)) (x : Int) (hown : wr.ownsRow base e 1 v n (xs.map (Value.int .i64))) (hn : n ≤ 1099511627776) (hbase : base ≤ wr.heap.size)
    (hgd : o.guard = none) (ho : o.op = .call { callee := .builtin .append, args := #[s, y], argTypes := #[t, t] }) (hs : a.eval s = v) (hy : a.eval y = .slice (some ⟨wr.heap.size, 0, none⟩) 1 1)
    (h : ∀ g cap w', w'.ownsRow base e 1 (.slice (some ⟨g, 0, none⟩) (n + 1) cap) (n + 1) ((xs ++ [x]).map (Value.int .i64)) → Below base wr w' → wpList P ops Q rest (a.put o.dst (.slice (some ⟨g, 0, none⟩) (n + 1) cap)) w') :
    wpList P ops Q (o :: rest) a (wr.alloc (.cells #[.int .i64 x] e)) :=
  list_pushsI hi hz hsize hby s y t ht #[.int .i64 x] [x] rfl (by simp) (by simp) hown hn hbase hgd ho hs hy h
end
section
variable {e e' : Nat} {w w' a : World} {lo hi lo' hi' : Nat} {u v : Value} {n m : Nat} {xs ys : List Int}
end
theorem Own.cap {e : Nat} {w : World} {lo hi : Nat} {p : Option Addr} {n c : Nat} {xs : List Int} (h : Own e w lo hi (.slice p n c) n xs) : n ≤ c := by
  rcases h.1.2 with ⟨hv, hn⟩ | ⟨g, cap, cur, hv, _, _, hc, _⟩
  · omega
  · simp only [Value.slice.injEq] at hv
    omega
section
variable {P : Program} {e : TypeId} {i : TypeInfo} {base n m c : Nat} {wr : World} {v : Value} {p : Option Addr} {xs ys : List Int}
theorem news_of_in {wr : World} {b o m : Nat} {ys : List Int} (hl : ys.length = m) (hc : ∀ i, i < m → wr.cell? ⟨b, o + i, none⟩ = some (.int .u8 (ys.getD i 0))) : ∀ j u, (ys.map (Value.int .u8))[j]? = some u → wr.cell? ((⟨b, o, none⟩ : Addr).add j) = some u := by
  intro j u hj
  have hjl : j < ys.length := by
    rcases Nat.lt_or_ge j ys.length with h | h
    · exact h
    · simp [List.getElem?_eq_none (show (ys.map (Value.int .u8)).length ≤ j by simpa using h)] at hj
  have hplain : (⟨b, o, none⟩ : Addr).add j = ⟨b, o + j, none⟩ := by unfold Addr.add; split <;> simp_all
  rw [hplain, hc j (by omega)]
  simpa [List.getD, List.getElem?_eq_getElem hjl] using hj
theorem list_spread {ops : Array Oper} {rest : List Oper} {o : Oper} {a : Act} {Q : Exit → Act → World → Prop} (hi : P.info? e = some i) (hz : i.zero = some (.int .u8 0)) (hsize : i.size = 1) (hby : i.bytes = 1)
    (s y : Operand) (t : TypeId) (ht : P.underlying t = some (.slice e)) (hown : wr.ownsRow base e 1 v n (xs.map (Value.int .u8))) (hin : BytesIn wr p m ys) (hl : ys.length = m) (hm : 0 < m) (hm' : m ≤ 1099511627776)
    (hn : n ≤ 1099511627776) (hbase : base ≤ wr.heap.size)
    (hgd : o.guard = none) (ho : o.op = .call { callee := .builtin .append, args := #[s, y], argTypes := #[t, t] }) (hs : a.eval s = v) (hy : a.eval y = .slice p m c)
    (h : ∀ g cap w', w'.ownsRow base e 1 (.slice (some ⟨g, 0, none⟩) (n + m) cap) (n + m) ((xs ++ ys).map (Value.int .u8)) → wr.grownBy w' v.ownBlock → Below base wr w' → wpList P ops Q rest (a.put o.dst (.slice (some ⟨g, 0, none⟩) (n + m) cap)) w') :
    wpList P ops Q (o :: rest) a wr := by
  obtain ⟨b, of, rfl, hc⟩ := hin hm
  refine wpList_append_lies _ hgd s y t ho base e i (.int .u8 0) 1 1 ht hi hz hsize hby rfl (by decide) v n (xs.map (Value.int .u8)) hs hown ⟨b, of, none⟩ m c (ys.map (Value.int .u8)) hy (by simp [hl]) (news_of_in hl hc) (ints_oneCell _ _) hm (pushs_fit hn hm').1 (pushs_fit hn hm').2 hbase _ rfl ?_
  intro g cap w' h1 h2 _ _
  exact h g cap w' (by simpa using h1) h2 ((Below.refl _ _).grown h2 hbase fun k hk => (hown.lt k hk).1)
theorem step_spread {ops : Array Oper} {o : Oper} {a : Act} {K : Act → World → Prop} {Q : Exit → Act → World → Prop} {E : Prop} (hi : P.info? e = some i) (hz : i.zero = some (.int .u8 0)) (hsize : i.size = 1) (hby : i.bytes = 1)
    (s y : Operand) (t : TypeId) (ht : P.underlying t = some (.slice e)) (hown : wr.ownsRow base e 1 v n (xs.map (Value.int .u8))) (hin : BytesIn wr p m ys) (hl : ys.length = m) (hm : 0 < m) (hm' : m ≤ 1099511627776)
    (hn : n ≤ 1099511627776) (hbase : base ≤ wr.heap.size)
    (hgd : o.guard = none) (ho : o.op = .call { callee := .builtin .append, args := #[s, y], argTypes := #[t, t] }) (hs : a.eval s = v) (hy : a.eval y = .slice p m c)
    (h : ∀ g cap w', w'.ownsRow base e 1 (.slice (some ⟨g, 0, none⟩) (n + m) cap) (n + m) ((xs ++ ys).map (Value.int .u8)) → wr.grownBy w' v.ownBlock → Below base wr w' → K (a.put o.dst (.slice (some ⟨g, 0, none⟩) (n + m) cap)) w') :
    if Region.wanted o (yielded ops a.tmps) = true then Oper.wp P o a wr K Q else E := by
  obtain ⟨b, of, rfl, hc⟩ := hin hm
  refine step_append_lies _ hgd s y t ho base e i (.int .u8 0) 1 1 ht hi hz hsize hby rfl (by decide) v n (xs.map (Value.int .u8)) hs hown ⟨b, of, none⟩ m c (ys.map (Value.int .u8)) hy (by simp [hl]) (news_of_in hl hc) (ints_oneCell _ _) hm (pushs_fit hn hm').1 (pushs_fit hn hm').2 hbase _ rfl ?_
  intro g cap w' h1 h2 _ _
  exact h g cap w' (by simpa using h1) h2 ((Below.refl _ _).grown h2 hbase fun k hk => (hown.lt k hk).1)
end
theorem infoInt : (Tryz.prog.info? 3).map (fun i => (i.zero, i.size, i.bytes)) = some (some (.int .i64 0), 1, 8) := by kernel_rfl
def quarterN (a b c d : Nat) : Nat × Nat × Nat × Nat :=
  let a1 := (a + b) % 4294967296
  let d1 := turnN (d ^^^ a1) 16
  let c1 := (c + d1) % 4294967296
  let b1 := turnN (b ^^^ c1) 12
  let a2 := (a1 + b1) % 4294967296
  let d2 := turnN (d1 ^^^ a2) 8
  let c2 := (c1 + d2) % 4294967296
  let b2 := turnN (b1 ^^^ c2) 7
  (a2, b2, c2, d2)
def setQ (L : List Int) (a b c d : Nat) (u v x y : Int) : List Int := (((L.set a u).set b v).set c x).set d y
def quarterL (L : List Int) (a b c d : Nat) : List Int :=
  let q := quarterN (wordN (L.getD a 0)) (wordN (L.getD b 0)) (wordN (L.getD c 0)) (wordN (L.getD d 0))
  setQ L a b c d (q.1 : Int) (q.2.1 : Int) (q.2.2.1 : Int) (q.2.2.2 : Int)
theorem wordN_add (u v : Int) : (IntKind.i64.wrap (u + v)) % 4294967296 = (((wordN u + wordN v) % 4294967296 : Nat) : Int) := by
  rw [IntKind.wrap_i64]
  unfold wordN
  omega
theorem wordN_nat {a : Nat} (h : a < 4294967296) : wordN (a : Int) = a := by unfold wordN; omega
theorem wrap_mod (n : Nat) : wordN (IntKind.i64.wrap (n : Int)) = n % 4294967296 := by
  rw [IntKind.wrap_i64]
  unfold wordN
  omega
theorem ofInt_mod (u : Int) : (BitVec.ofInt 64 u).toNat % 4294967296 = wordN u := by
  have e : (BitVec.ofInt 64 u).toNat = (u % 18446744073709551616).toNat := BitVec.toNat_ofInt u
  rw [e]
  unfold wordN
  omega
theorem bits_xor_mod (u v : Int) : wordN (bits .xor .i64 u v) = wordN u ^^^ wordN v := by
  have e : bits .xor .i64 u v = IntKind.i64.wrap ((BitVec.ofInt 64 u ^^^ BitVec.ofInt 64 v).toNat : Int) := rfl
  rw [e, wrap_mod, BitVec.toNat_xor, ← ofInt_mod u, ← ofInt_mod v]
  exact Nat.xor_mod_two_pow (n := 32)
theorem turn_xor (u v : Int) (k : Int) : turnI (bits .xor .i64 u v) k = ((turnN (wordN u ^^^ wordN v) (countN k) : Nat) : Int) := by unfold turnI; rw [bits_xor_mod]
section
variable {L : List Int} {a b c d : Nat} {u v x y z : Int}
theorem setQ_length : (setQ L a b c d u v x y).length = L.length := by simp [setQ]
theorem setQ_self (ha : a < L.length) (hb : b < L.length) (hc : c < L.length) (hd : d < L.length) : setQ L a b c d (L.getD a 0) (L.getD b 0) (L.getD c 0) (L.getD d 0) = L := by
  have e : ∀ k, k < L.length → L.set k (L.getD k 0) = L := fun k hk => by
    rw [List.getD_eq_getElem?_getD, List.getElem?_eq_getElem hk]
    exact List.set_getElem_self hk
  unfold setQ
  rw [e a ha, e b hb, e c hc, e d hd]
theorem setQ_a (h1 : a ≠ b) (h2 : a ≠ c) (h3 : a ≠ d) : (setQ L a b c d u v x y).set a z = setQ L a b c d z v x y := by
  unfold setQ
  rw [List.set_comm _ _ h3.symm, List.set_comm _ _ h2.symm, List.set_comm _ _ h1.symm, List.set_set]
theorem setQ_b (h1 : b ≠ c) (h2 : b ≠ d) : (setQ L a b c d u v x y).set b z = setQ L a b c d u z x y := by
  unfold setQ
  rw [List.set_comm _ _ h2.symm, List.set_comm _ _ h1.symm, List.set_set]
theorem setQ_c (h1 : c ≠ d) : (setQ L a b c d u v x y).set c z = setQ L a b c d u v z y := by
  unfold setQ
  rw [List.set_comm _ _ h1.symm, List.set_set]
theorem setQ_d : (setQ L a b c d u v x y).set d z = setQ L a b c d u v x z := by
  unfold setQ
  rw [List.set_set]
theorem getQ_a (ha : a < L.length) (h1 : a ≠ b) (h2 : a ≠ c) (h3 : a ≠ d) : (setQ L a b c d u v x y)[a]? = some u := by
  unfold setQ
  rw [List.getElem?_set_ne h3.symm, List.getElem?_set_ne h2.symm, List.getElem?_set_ne h1.symm, List.getElem?_set_self ha]
theorem getQ_b (hb : b < L.length) (h1 : b ≠ c) (h2 : b ≠ d) : (setQ L a b c d u v x y)[b]? = some v := by
  unfold setQ
  rw [List.getElem?_set_ne h2.symm, List.getElem?_set_ne h1.symm, List.getElem?_set_self (by simpa using hb)]
theorem getQ_c (hc : c < L.length) (h1 : c ≠ d) : (setQ L a b c d u v x y)[c]? = some x := by
  unfold setQ
  rw [List.getElem?_set_ne h1.symm, List.getElem?_set_self (by simpa using hc)]
theorem getQ_d (hd : d < L.length) : (setQ L a b c d u v x y)[d]? = some y := by
  unfold setQ
  rw [List.getElem?_set_self (by simpa using hd)]
end
section
variable {P : Program} {e : TypeId} {i : TypeInfo} {base n m c : Nat} {wr : World} {v : Value} {p : Option Addr} {xs ys : List Int}
theorem news_of_inI {wr : World} {b o m : Nat} {ys : List Int} (hl : ys.length = m) (hc : ∀ i, i < m → wr.cell? ⟨b, o + i, none⟩ = some (.int .i64 (ys.getD i 0))) : ∀ j u, (ys.map (Value.int .i64))[j]? = some u → wr.cell? ((⟨b, o, none⟩ : Addr).add j) = some u := by
  intro j u hj
  have hjl : j < ys.length := by have := (List.getElem?_eq_some_iff.1 hj).1; simpa using this
  have hplain : (⟨b, o, none⟩ : Addr).add j = ⟨b, o + j, none⟩ := by unfold Addr.add; split <;> simp_all
  rw [hplain, hc j (by omega)]
  simpa [List.getD, List.getElem?_eq_getElem hjl] using hj
theorem list_spreadI {ops : Array Oper} {rest : List Oper} {o : Oper} {a : Act} {Q : Exit → Act → World → Prop} (hi : P.info? e = some i) (hz : i.zero = some (.int .i64 0)) (hsize : i.size = 1) (hby : i.bytes = 8)
    (s y : Operand) (t : TypeId) (ht : P.underlying t = some (.slice e)) (hown : wr.ownsRow base e 1 v n (xs.map (Value.int .i64))) (hin : IntsIn wr p m ys) (hl : ys.length = m) (hm : 0 < m) (hm' : m ≤ 1099511627776)
    (hn : n ≤ 1099511627776) (hbase : base ≤ wr.heap.size)
    (hgd : o.guard = none) (ho : o.op = .call { callee := .builtin .append, args := #[s, y], argTypes := #[t, t] }) (hs : a.eval s = v) (hy : a.eval y = .slice p m c)
    (h : ∀ g cap w', w'.ownsRow base e 1 (.slice (some ⟨g, 0, none⟩) (n + m) cap) (n + m) ((xs ++ ys).map (Value.int .i64)) → Below base wr w' → wpList P ops Q rest (a.put o.dst (.slice (some ⟨g, 0, none⟩) (n + m) cap)) w') :
    wpList P ops Q (o :: rest) a wr := by
  obtain ⟨b, of, rfl, hc⟩ := hin hm
  refine wpList_append_lies _ hgd s y t ho base e i (.int .i64 0) 1 8 ht hi hz hsize hby rfl (by decide) v n (xs.map (Value.int .i64)) hs hown ⟨b, of, none⟩ m c (ys.map (Value.int .i64)) hy (by simp [hl]) (news_of_inI hl hc) (ints_oneCell _ _) hm (pushs_fitI hn hm').1 (pushs_fitI hn hm').2 hbase _ rfl ?_
  intro g cap w' h1 h2 _ _
  exact h g cap w' (by simpa using h1) ((Below.refl _ _).grown h2 hbase fun k hk => (hown.lt k hk).1)
end
theorem specWord_same (n : Int) (w : World) :
    Calls Tryz.prog 157 #[.int .i64 n] w fun e w' => e = .returned (.int .i64 (n % 4294967296)) ∧ w' = w := by
  have hm := i64_mask32 n
  go_enter Tryz.func157, Tryz.ntmps157
  go_wp2
  go_ret
  exact ⟨rfl, rfl⟩
theorem implWord_same (n : Int) (w : World) :
    Calls Tryz.prog 214 #[.int .i64 n] w fun e w' => e = .returned (.int .i64 (n % 4294967296)) ∧ w' = w := by
  go_enter Tryz.func214, Tryz.ntmps214
  go_wp2
  go_ret
  exact ⟨rfl, rfl⟩
theorem specWord_any (n : Int) (w : World) :
    Calls Tryz.prog 157 #[.int .i64 n] w fun e w' => e = .returned (.int .i64 (n % 4294967296)) ∧ Below w.heap.size w w' :=
  (specWord_same n w).mono fun _ _ ⟨h1, h2⟩ => ⟨h1, by rw [h2]; exact Below.refl _ _⟩
theorem rotate_same (x : Nat) (k : Int) (w : World) (hx : x < 4294967296) :
    Calls Tryz.prog 227 #[.int .u32 x, .int .i64 k] w fun e w' => e = .returned (.int .u32 ((turnN x (countN k) : Nat) : Int)) ∧ w' = w := by
  have hm := (u64_mask31 k).trans (countN_eq k).symm
  have hlt := countN_lt k
  generalize countN k = m at hm hlt ⊢
  have ho := turn_u32 hx hlt
  go_enter Tryz.func227, Tryz.ntmps227
  go_wp2
  go_ret
  exact ⟨rfl, rfl⟩
theorem turned_same (x : Nat) (k : Int) (w : World) (hx : x < 4294967296) :
    Calls Tryz.prog 213 #[.int .u32 x, .int .i64 k] w fun e w' => e = .returned (.int .u32 ((turnN x (countN k) : Nat) : Int)) ∧ w' = w := by
  have hr := turn_lt hx (countN_lt k)
  have hc := fun w => rotate_same x k w hx
  generalize turnN x (countN k) = r at hr hc ⊢
  go_enter Tryz.func213, Tryz.ntmps213
  go_wp2_with (fail)
  refine (hc _).mono ?_
  rintro e w1 ⟨rfl, rfl⟩
  go_wp2
  go_ret
  exact ⟨rfl, rfl⟩
theorem specTurn_any (n k : Int) (w : World) :
    Calls Tryz.prog 218 #[.int .i64 n, .int .i64 k] w fun e w' => e = .returned (.int .i64 (turnI n k)) ∧ Below w.heap.size w w' := by
  have hx := wordN_lt n
  have he := wordN_eq n
  have hm := (i64_mask31 k).trans (countN_eq k).symm
  have hlt := countN_lt k
  unfold turnI
  generalize wordN n = x at hx he ⊢
  generalize countN k = m at hm hlt ⊢
  have ho := turn_i64 hx hlt
  have hs := shl_small hx hlt
  generalize turnN x m = r at ho ⊢
  go_enter Tryz.func218, Tryz.ntmps218
  go_wp2_with (fail)
  refine (specWord_same n _).mono ?_
  rintro e w1 ⟨rfl, rfl⟩
  rw [← he]
  clear he
  go_wp2_with (fail)
  go_quiet ((go_at_call 157; exact Calls.quiet_of_same (specWord_same _ _)))
  go_wp2
  go_ret
  rw [ho]
  exact ⟨rfl, below_drewN (Below.refl _ _) _⟩
end Go.Proofs.YtnpffnhiefgglaaGreatDoor
namespace Go.Proofs.YtnpffnhiefgglaaGreatDoor
set_option maxRecDepth 100000
section
variable {P : Program} {ops : Array Oper} {Q : Exit → Act → World → Prop} {S : World → Prop} {m : Nat}
def AnyK (P : Program) (ops : Array Oper) (Q : Exit → Act → World → Prop) (S : World → Prop) (m : Nat) : Nat → Array Bool → Act → World → Prop
  | 0, listed, a, w => Region.ready .any ops listed = [] ∧ Q .normal a w
  | fuel + 1, listed, a, w => (Region.ready .any ops listed = [] → Q .normal a w) ∧ ∀ i ∈ Region.ready .any ops listed, wpOp P ops Q i (fun a' w' => ((listed.setIfInBounds i true).getD m true = false → S w') ∧ AnyK P ops Q S m fuel (listed.setIfInBounds i true) a' w') a w
theorem AnyK.any : ∀ (fuel : Nat) (listed : Array Bool) (a : Act) (w : World), AnyK P ops Q S m fuel listed a w → wpAny P .any ops Q fuel listed a w
  | 0, _, _, _, h => h
  | fuel + 1, _, _, _, h => ⟨h.1, fun i hi => wpOp_mono (fun a' w' k => AnyK.any fuel _ a' w' k.2) (h.2 i hi)⟩
theorem anyK_first {i : Nat} {oi om : Oper} {v : Value} (hi : ops[i]? = some oi) (hm : ops[m]? = some om) (him : i ≠ m) (hwait : ∃ e ∈ om.after, Region.binds .any e = true ∧ e.on = i) (hsel : ∀ (j : Nat) (o : Oper) cs b, ops[j]? = some o → o.op ≠ .select cs b)
    (hQ : ∀ c a w, Q (.panic c) (a.put oi.dst v) w → Q (.panic c) a w) :
    ∀ (fuel : Nat) (listed : Array Bool) (a : Act) (w : World),
      (∀ j oj, ops[j]? = some oj → j ≠ i → listed.getD j true = false → (∀ e ∈ oj.after, Region.binds .any e = true → e.on ≠ i) → oi.apart ops oj = true) →
      i ∈ Region.ready .any ops listed → YieldsIf P ops S oi v a → S w → listed.getD m true = false →
      AnyK P ops Q S m fuel (listed.setIfInBounds i true) (a.put oi.dst v) w → AnyK P ops Q S m (fuel + 1) listed a w := by
  intro fuel
  induction fuel with
  | zero =>
    intro listed a w _ hr hy hS _ H
    refine ⟨fun h => absurd hr (by rw [h]; exact List.not_mem_nil), fun j hj => ?_⟩
    by_cases hji : j = i
    · subst hji; exact hy.wpOp hi hS ⟨fun _ => hS, H⟩
    · exact absurd (ready_mono hj hji) (by rw [H.1]; exact List.not_mem_nil)
  | succ fuel ih =>
    intro listed a w hfree hr hy hS hlm H
    refine ⟨fun h => absurd hr (by rw [h]; exact List.not_mem_nil), fun j hj => ?_⟩
    by_cases hji : j = i
    · subst hji; exact hy.wpOp hi hS ⟨fun _ => hS, H⟩
    · have hun : listed.getD i true = false := (mem_ready.1 hr).1
      obtain ⟨hjun, oj, hoj, hall⟩ := mem_ready.1 hj
      have hnot : ∀ e ∈ oj.after, Region.binds .any e = true → e.on ≠ i := fun e he hb heq => by
        have h1 := hall e he hb
        rw [heq] at h1
        rcases Nat.lt_or_ge i listed.size with h' | h'
        · simp [h'] at hun h1
          rw [hun] at h1
          cases h1
        · simp [Array.getElem?_eq_none h'] at h1
      have hjm : j ≠ m := fun e => by
        subst e
        rw [hoj] at hm
        cases hm
        obtain ⟨e, he, hb, ho⟩ := hwait
        exact hnot e he hb ho
      have hlm' : (listed.setIfInBounds j true).getD m true = false := by rw [getD_set_ne true hjm]; exact hlm
      have h2 := wpOp_putIf hoj (hfree j oj hoj hji hjun hnot) (fun cs b => hsel i oi cs b hi) (fun cs b => hsel j oj cs b hoj) hQ hy (H.2 j (ready_mono hj hji))
      refine wpOp_mono (fun a' w' k => ?_) h2
      obtain ⟨k1, k2, k3⟩ := k
      rw [Array.setIfInBounds_comm _ _ (Ne.symm hji)] at k2 k3
      have hS' : S w' := k2 (by rw [getD_set_ne true him]; exact hlm')
      refine ⟨fun _ => hS', ih _ a' w' (fun q oq hq hqi hqu hqn => hfree q oq hq hqi ?_ hqn) (ready_mono hr (Ne.symm hji)) k1 hS' hlm' k3⟩
      by_cases hjq : j = q
      · subst hjq; exact hjun
      · rw [getD_set_ne true hjq] at hqu; exact hqu
theorem anyK_take {i : Nat} {oi om : Oper} {v : Value} {fuel : Nat} {listed : Array Bool} {a : Act} {w : World} (hi : ops[i]? = some oi) (hm : ops[m]? = some om) (him : (i != m && om.after.any (fun e => Region.binds .any e && e.on == i)) = true)
    (hs : Region.noSelect ops = true) (hf : Region.free .any ops listed i = true) (hr : (Region.ready .any ops listed).contains i = true) (hlm : listed.getD m true = false)
    (hQ : ∀ c a w, Q (.panic c) (a.put oi.dst v) w → Q (.panic c) a w) (hy : YieldsIf P ops S oi v a) (hS : S w)
    (h : AnyK P ops Q S m fuel (listed.setIfInBounds i true) (a.put oi.dst v) w) : AnyK P ops Q S m (fuel + 1) listed a w := by
  rw [Bool.and_eq_true] at him
  refine anyK_first hi hm (by simpa using him.1) ?_ (Region.noSelect_spec hs) hQ fuel listed a w (Region.free_spec hi hf) (by simpa using hr) hy hS hlm h
  obtain ⟨e, he, hb⟩ := Array.any_eq_true'.1 him.2
  rw [Bool.and_eq_true] at hb
  exact ⟨e, he, hb.1, by simpa using hb.2⟩
theorem anyK_one {i : Nat} {o : Oper} {fuel : Nat} {listed : Array Bool} {a : Act} {w : World} (hr : Region.ready .any ops listed = [i]) (ho : ops[i]? = some o)
    (h : ∀ K' : Act → World → Prop, Go.Shut (∀ a w, ((listed.setIfInBounds i true).getD m true = false → S w) → AnyK P ops Q S m fuel (listed.setIfInBounds i true) a w → K' a w) → if Region.wanted o (yielded ops a.tmps) = true then Oper.wp P o a w K' Q else K' (a.put o.dst undef) w) :
    AnyK P ops Q S m (fuel + 1) listed a w := by
  refine ⟨fun e => absurd (hr.symm.trans e) (by simp), fun j hj => ?_⟩
  rw [hr, List.mem_singleton] at hj
  subst hj
  exact wpOp_step ho (fun K' hK => h K' (fun a w h1 h2 => hK a w ⟨h1, h2⟩))
theorem anyK_done {listed : Array Bool} {a : Act} {w : World} (hr : Region.ready .any ops listed = []) (h : Q .normal a w) : ∀ fuel, AnyK P ops Q S m fuel listed a w
  | 0 => ⟨hr, h⟩
  | _ + 1 => ⟨fun _ => h, by rw [hr]; simp⟩
theorem wp_region_K (m : Nat) (S : World → Prop) {id : Nat} {a : Act} {w : World} (hm : P.follows .mixedOrders = true) (h : AnyK P ops Q S m ops.size (Array.replicate ops.size false) a w.drew) : (Code.region id ops true).wp P Q a w :=
  wp_region_any hm (h.any)
end
end Go.Proofs.YtnpffnhiefgglaaGreatDoor
