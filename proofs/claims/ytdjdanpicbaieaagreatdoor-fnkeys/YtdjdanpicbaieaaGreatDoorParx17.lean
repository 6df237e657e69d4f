/-
  What both sides' SecretOf answers at any bytes and any epoch. Conditions: bytes all; for the program the table of the rounds' numbers is as its text says.
-/
import Derived.Test.YtdjdanpicbaieaaGreatDoorParx12
import Derived.Test.YtdjdanpicbaieaaGreatDoorParx15
import Derived.Test.YtdjdanpicbaieaaGreatDoorParx16
import Derived.Deep.RegionHeld3
namespace Go.Proofs.YtdjdanpicbaieaaGreatDoor
open Go.RowKit Go.Maps
set_option maxRecDepth 100000

/-- The secret's bytes. -/
def secN (n : Nat) (e : Int) : Nat := if hasB n e then 32 else 0
def secL (xs : List Int) (e : Int) : List Int := if hasB xs.length e then derL [] xs (tellL epochL e) 32 else []
theorem der32 (n m : Nat) : derN n m 7 32 = 32 := expN_is (M := 32) (by omega) (by omega) (by omega) (by have := extN_le n m; omega)
theorem secN_le (n : Nat) (e : Int) : secN n e ≤ 32 := by unfold secN; split <;> omega
theorem hasB_iff {n : Nat} {e : Int} : hasB n e = true ↔ n = 32 ∧ 0 ≤ e ∧ e ≤ 40 := decide_eq_true_iff
theorem secL_length (xs : List Int) (e : Int) : (secL xs e).length = secN xs.length e := by
  unfold secL secN
  split
  · rename_i h
    rw [derL_length, tellL_length rfl (hasB_iff.1 h).2]
    exact der32 _ _
  · rfl
theorem secL_byte (xs : List Int) (e : Int) : ∀ x ∈ secL xs e, 0 ≤ x ∧ x < 256 := by
  unfold secL
  split
  · exact expL_byte _ _ _
  · intro x hx; cases hx

/-- An element of the ring's map: whatever it is. -/
def keyR (_ : Value) : Option (DataW Unit × List MemPlace) := some (.nil, [])
theorem key_map : Keyed Tryz.prog 3 := int_keyed Tryz.underlying3
theorem zeroBytes (w : World) : (zeroValue 22).run Tryz.prog w = .ok (.slice none 0 0) w := by kernel_rfl
theorem map_made {w : World} {M : Nat} (h : w.heap[M]? = some (.map #[] 0)) : w.ownsMap (H := Unit) Tryz.prog 3 keyR M 0 (.map []) :=
  ⟨#[], 0, h, ⟨by simp, MapKept.stamped_empty 0, by simp⟩, Nat.le_refl _, rfl⟩
theorem heap_lt {w : World} {M : Nat} {o : Obj} (h : w.heap[M]? = some o) : M < w.heap.size := by
  rcases Nat.lt_or_ge M w.heap.size with x | x
  · exact x
  · rw [Array.getElem?_eq_none x] at h; cases h
theorem below_ring {w0 w w' : World} {R : Nat} (h : Below w0.heap.size w0 w) (g : w.grownBy w' (some R)) (hR : w0.heap.size ≤ R) : Below w0.heap.size w0 w' := h.grown g h.size fun k hk => by cases hk; exact hR

theorem RingAt.on {w w' : World} {R : Nat} {s : Value} {d m l : Int} {k : Value} (h : RingAt w R s d m l k) (b : Below w.heap.size w w') : RingAt w' R s d m l k := Cells.on h b
theorem below_drewR {a w : World} (h : Below a.heap.size a w) : Below a.heap.size a w.drew := h.drew
/-- A row behind a block that is written. -/
theorem Own.behind {e : Nat} {w w' : World} {lo hi : Nat} {v : Value} {n : Nat} {xs : List Int} {M : Nat} (h : Own e w lo hi v n xs) (hg : w.grownBy w' (some M)) (hM : M < lo) : Own e w' lo hi v n xs := by
  refine ⟨h.1.kept hg ?_, h.2⟩
  rcases hv : v.ownBlock with _ | k
  · exact .inl rfl
  · right
    intro he
    have h2 := (h.1.lt k hv).1
    cases he
    omega
def epochS : ByteArray := ⟨#[101, 112, 111, 99, 104]⟩
theorem epochS_nums : numsOf epochS = epochL := by decide

set_option maxHeartbeats 4000000 in
theorem secret_ring (p : Option Addr) (c : Nat) (xs : List Int) (e : Int) (R : Nat) (w0 w : World) (he : 0 ≤ e ∧ e ≤ 40) (hx : xs.length = 32) (h : BytesIn w0 p 32 xs) (hb : ∀ x ∈ xs, 0 ≤ x ∧ x < 256) (hK : KeysIs w0) (hR : w0.heap.size ≤ R) (hw : Below w0.heap.size w0 w)
    (hr : RingAt w R (.slice p 32 c) 0 0 0 (.map none)) :
    Calls Tryz.prog 28 #[.pointer (some ⟨R, 0, none⟩), .int .i64 e] w fun r w' => ∃ p' c', r = .returned (.slice p' 32 c') ∧ Own 5 w' w.heap.size w'.heap.size (.slice p' 32 c') 32 (derL [] xs (tellL epochL e) 32) ∧ Below w0.heap.size w0 w' := by
  have hnot : ∀ (x : Bool) (w : World), (Op.unary .not (.bool x)).run Tryz.prog w = .ok (.bool (!x)) w := fun _ _ => rfl
  have hmf : ∀ (fn : Fn) (first cap : Array Value) (w : World), (Instr.makeFunc fn first cap).run Tryz.prog w = .ok (.func fn first cap) w := fun _ _ _ _ => rfl
  have CDo := do_ring R (.slice p 32 c) 0 (.map none) w hr
  have hkey : keyOf Tryz.prog 3 (.int .i64 e) = some (.int .i64 e) := keyOf_int_mk Tryz.underlying3 (WalkArith.wf_i64 (by omega))
  have hRw := hr.1
  have hhas : Maps.has (H := Unit) (.map []) (.int .i64 e) = false := rfl
  have hel := tellL_length (info := epochL) rfl he
  have CE := fun X => ofEpoch_any epochS e X rfl he
  rw [epochS_nums] at CE
  have heb := tellL_byte epochL_byte e
  generalize tellL epochL e = TL at CE hel heb ⊢
  have CD := fun (pc : Option Addr) (cc : Nat) (X : World) (hX : Below w0.heap.size w0 X) (hc : BytesIn X pc 7 TL) => implDerive_any none p pc 0 32 7 0 c cc 32 [] xs TL X rfl hx hel (fun x => absurd x (by omega)) (in_below h hX) hc (fun x hx => by cases hx) hb heb (keys_below hK hX)
  simp only [der32] at CD
  have hDl : (derL [] xs TL 32).length = 32 := by rw [derL_length, hel]; exact der32 _ _
  generalize derL [] xs TL 32 = DL at CD hDl ⊢
  go_enter_defers Tryz.func28, Tryz.ntmps28
  go_wp2_with (first
    | (go_at_call 44; refine CDo.mono ?_; rintro r w1 ⟨rfl, M, hMw, h1, hM, g1⟩; have CL := lock_free ⟨R, 4, none⟩ w1 h1.c4 (h1.z 4); have h2 := h1.s4 1; have g2 := set_grown w1 R 4 (.int .i32 1); have hMR : some M ≠ some R := (fun x => by cases x; omega); have hM2 := (g2.block M (heap_lt hM) hMR).trans hM; clear CDo hM h1; generalize w1.setCell ⟨R, 4, none⟩ (.int .i32 1) = w2 at CL h2 g2 hM2)
    | (go_at_call 46; refine CL.mono ?_; rintro r w2' ⟨rfl, hw2⟩; rw [hw2]; clear hw2 w2' CL; have c0 := h2.c0; have c6 := h2.c6)
    | (at_lookup; refine wpList_lookup_own_ok _ rfl _ _ 51 rfl 3 22 key_map Tryz.underlying51 keyR (zeroBytes _) .nil [] rfl M 0 _ rfl (map_made hM2) _ _ rfl hkey ?_; intro v ps hv; rw [hhas]; clear hv))
  have k2 := below_ring (below_ring hw g1 hR) g2 hR
  have HK := fun (X : World) (hX : Below w2.heap.size w2 X) => (h2.on hX).c0
  clear c0 c6 g1 g2 hw hr hmf
  go_region_held3 (fun w' => w'.cell? ⟨R, 0, none⟩ = some (.slice p 32 c)) (exact HK _ (by repeat (with_reducible (first | exact Below.refl _ _ | refine below_drewR ?_ | refine below_on ?_ bd | refine below_on ?_ be)))) (first | (go_at_call 31; refine (CE _).mono ?_; rintro r w3 ⟨pe, ce, rfl, re, be⟩) | (go_at_call 48; refine (CD pe ce _ (below_on k2 (by repeat (with_reducible (first | exact Below.refl _ _ | refine below_drewR ?_ | refine below_on ?_ be)))) (in_below re.bytes (by repeat (with_reducible (first | exact Below.refl _ _ | refine below_drewR ?_))))).mono ?_; rintro r w4 ⟨pd, cd, rfl, rd, bd⟩))
  have b4 : Below w2.heap.size w2 w4 := below_on (below_on (below_drewR (Below.refl _ _)) be) bd
  have h4 := h2.on b4
  have hM4 : w4.heap[M]? = some (.map #[] 0) := (b4.block M (heap_lt hM2)).trans hM2
  have k4 := below_on k2 b4
  have hMlo : M < w3.heap.size := Nat.lt_of_lt_of_le (heap_lt hM2) (Nat.le_trans (Nat.le_refl _) be.size)
  have c6 := h4.c6
  have sz2 : w.heap.size ≤ w2.heap.size := Nat.le_trans hMw (Nat.le_of_lt (heap_lt hM2))
  have sz3 : w2.heap.size ≤ w3.heap.size := be.size
  clear CE CD HK h2 hM2 b4
  go_wp2_with (first
    | (at_mapUpdate; refine wpList_mapUpdate_own _ rfl _ _ _ 51 rfl 3 22 key_map Tryz.underlying51 keyR M 0 _ rfl (map_made hM4) (by unfold maxLen; omega) _ _ _ rfl rfl hkey .nil [] rfl ?_; intro w5 _ g5; have h5 := h4.grown g5 (fun x => hMR x.symm); have r5 := rd.behind g5 hMlo; have CC := copied_any pd 32 cd DL w5 (by decide) hDl r5.bytes)
    | (go_at_call 49; refine CC.mono ?_; rintro r w6 ⟨pf, cf, rfl, rf, bf⟩))
  have h6 := h5.on bf
  have k5 := k4.grown g5 k4.size (fun k hk => by cases hk; omega)
  have k6 := below_on k5 bf
  have s5 := g5.size
  -- the door: the lock is let go
  refine leaves_cons (f := 47) (args := #[.pointer (some ⟨R, 4, none⟩)]) (by simp) (by simp [go_sem]) ?_
  refine (unlock_deferred ⟨R, 4, none⟩ .returning _ h6.c4 (h6.z 4)).mono ?_
  rintro r u' w7 ⟨rfl, rfl, rfl⟩
  refine ⟨_, results_tmp rfl _ _ _, _, _, rfl, ?_, below_ring k6 (set_grown w6 R 4 (.int .i32 0)) hR⟩
  have r7 : Own 5 (w6.setCell ⟨R, 4, none⟩ (.int .i32 0)) w5.heap.size w6.heap.size (.slice pf 32 cf) 32 DL := ⟨ownsRow_setCell_below rf.1 (show R < w5.heap.size from h5.1) _, rf.2⟩
  exact ⟨owns_mono r7.1 (by have := bd.size; omega), fun k hk => by have := r7.2 k hk; simpa using this⟩

set_option maxHeartbeats 2000000 in
theorem implSecret_any (p : Option Addr) (n c : Nat) (xs : List Int) (e : Int) (w : World) (hx : xs.length = n) (h : BytesIn w p n xs) (hb : ∀ x ∈ xs, 0 ≤ x ∧ x < 256) (hK : KeysIs w) :
    Calls Tryz.prog 10 #[.slice p n c, .int .i64 e] w fun r w' => ∃ p' c', r = .returned (.slice p' (secN n e) c') ∧ Own 5 w' w.heap.size w'.heap.size (.slice p' (secN n e) c') (secN n e) (secL xs e) ∧ Below w.heap.size w w' := by
  have hnot : ∀ (x : Bool) (w : World), (Op.unary .not (.bool x)).run Tryz.prog w = .ok (.bool (!x)) w := fun _ _ => rfl
  have CH := fun X => hasKeys_any p n c e X
  by_cases hh : n = 32 ∧ 0 ≤ e ∧ e ≤ 40
  · rw [secN, secL, hx, hasB_yes hh]
    rw [hasB_yes hh] at CH
    obtain ⟨rfl, he⟩ := hh
    rw [if_pos rfl, if_pos rfl]
    obtain ⟨W, hW⟩ : ∃ W, W = w.alloc (.cells #[.slice p 32 c, .int .u32 0, .int .i32 0, .int .u32 0, .int .i32 0, .int .u32 0, .map none] 53) := ⟨_, rfl⟩
    have hr : RingAt W w.heap.size (.slice p 32 c) 0 0 0 (.map none) := by rw [hW]; exact Cells.made _ _ _
    have bW : Below w.heap.size w W := by rw [hW]; exact made_below _ _ (Below.refl _ _)
    have CS := secret_ring p c xs e w.heap.size w W he hx h hb hK (Nat.le_refl _) bW hr
    have sW := bW.size
    replace hW : Hid (w.alloc (.cells #[.slice p 32 c, .int .u32 0, .int .i32 0, .int .u32 0, .int .i32 0, .int .u32 0, .map none] 53) = W) := hW.symm
    go_enter Tryz.func10, Tryz.ntmps10
    go_wp2_with (first | (go_at_call 27; refine (CH _).mono ?_; rintro r w1 ⟨rfl, rfl⟩) | rw [hW.out])
    refine CS.mono ?_
    rintro r w2 ⟨p2, c2, rfl, r2, b2⟩
    go_wp2
    go_ret
    exact ⟨_, _, rfl, ⟨owns_mono r2.1 sW, r2.2⟩, b2⟩
  · rw [secN, secL, hx, hasB_no hh]
    rw [hasB_no hh] at CH
    rw [if_neg (by decide), if_neg (by decide)]
    go_enter Tryz.func10, Tryz.ntmps10
    go_wp2_with (go_at_call 27; refine (CH _).mono ?_; rintro r w1 ⟨rfl, rfl⟩)
    go_ret
    exact ⟨_, _, rfl, .of ⟨rfl, .inl ⟨rfl, rfl⟩⟩, Below.refl _ _⟩

set_option maxHeartbeats 4000000 in
theorem specSecret_any (p : Option Addr) (n c : Nat) (xs : List Int) (e : Int) (w : World) (hx : xs.length = n) (h : BytesIn w p n xs) (hb : ∀ x ∈ xs, 0 ≤ x ∧ x < 256) :
    Calls Tryz.prog 13 #[.slice p n c, .int .i64 e] w fun r w' => ∃ p' c', r = .returned (.slice p' (secN n e) c') ∧ Own 5 w' w.heap.size w'.heap.size (.slice p' (secN n e) c') (secN n e) (secL xs e) ∧ Below w.heap.size w w' := by
  have hnot : ∀ (x : Bool) (w : World), (Op.unary .not (.bool x)).run Tryz.prog w = .ok (.bool (!x)) w := fun _ _ => rfl
  have CI := fun X => l1In_any e 0 40 X
  by_cases hn : n = 32
  · subst hn
    by_cases he : 0 ≤ e ∧ e ≤ 40
    · rw [secN, secL, hx, hasB_yes ⟨rfl, he⟩, if_pos rfl, if_pos rfl]
      rw [decide_eq_true he] at CI
      obtain ⟨i0, hi, hz0, hz1, hz2⟩ := info_parts infoByte
      have hel := tellL_length (info := epochL) rfl he
      have heb := tellL_byte epochL_byte e
      have CG := fun X => specGreat_any e 2 X (by omega)
      rw [fitE_two he] at CG
      have hgl : (fitL e 2).reverse.length = 2 := by rw [List.length_reverse, fitE_len he]
      unfold tellL at hel heb ⊢
      generalize (fitL e 2).reverse = GL at CG hgl hel heb ⊢
      have CD := fun (pc : Option Addr) (cc : Nat) (X : World) (hX : Below w.heap.size w X) (hc : BytesIn X pc 7 (epochL ++ GL)) => specDerive_any none p pc 0 32 7 0 c cc 32 [] xs (epochL ++ GL) X rfl hx hel (fun x => absurd x (by omega)) (in_below h hX) hc (fun x hx => by cases hx) hb heb
      simp only [der32] at CD
      generalize derL [] xs (epochL ++ GL) 32 = DL at CD ⊢
      have kc := fun (W : World) (C : Array Value) (n c : Nat) => Lib.run_convert_bytes_const (P := Tryz.prog) W 22 5 C n c Tryz.underlying22 Tryz.underlying5
      have hlit := lit_in w 5 (5, 6) 101 112 111 99 104
      have bl : Below w.heap.size w (w.alloc (.cells #[.int .u8 101, .int .u8 112, .int .u8 111, .int .u8 99, .int .u8 104] 5 (5, 6))) := made_below _ _ (Below.refl _ _)
      obtain ⟨W1, hW1⟩ : ∃ W1, W1 = w.alloc (.cells #[.int .u8 101, .int .u8 112, .int .u8 111, .int .u8 99, .int .u8 104] 5 (5, 6)) := ⟨_, rfl⟩
      rw [← hW1] at hlit bl
      replace hW1 : Hid (w.alloc (.cells #[.int .u8 101, .int .u8 112, .int .u8 111, .int .u8 99, .int .u8 104] 5 (5, 6)) = W1) := hW1.symm
      clear h hb
      go_enter Tryz.func13, Tryz.ntmps13
      go_wp2_with (first
        | (go_at_call 33; refine (CI _).mono ?_; rintro r w0 ⟨rfl, rfl⟩)
        | rw [hW1.out]
        | (go_at_call 35; refine (CG _).mono ?_; rintro r w2 ⟨p2, c2, rfl, r2, b2⟩; have hlit2 := in_below hlit b2; have r2b := r2.bytes; have k2 := below_on bl b2)
        | (at_builtin; refine list_grows hi hz0 hz1 hz2 (.tmp 16) (.tmp 18) 22 Tryz.underlying22 hlit2 rfl (by decide) r2b hgl (by decide) (by decide) (by rfl) (by rfl) (by rfl) (by rfl) ?_; intro p3 c3 w3 r3 b3; have k3 := below_on k2 b3)
        | (go_at_call 34; refine (CD p3 c3 _ k3 r3.bytes).mono ?_; rintro r w4 ⟨p4, c4, rfl, r4, b4⟩))
      go_ret
      exact ⟨_, _, rfl, ⟨owns_mono r4.1 k3.size, r4.2⟩, below_on k3 b4⟩
    · rw [secN, secL, hx, hasB_no (fun x => he x.2), if_neg (by decide), if_neg (by decide)]
      rw [decide_eq_false he] at CI
      go_enter Tryz.func13, Tryz.ntmps13
      go_wp2_with (go_at_call 33; refine (CI _).mono ?_; rintro r w0 ⟨rfl, rfl⟩)
      go_ret
      exact ⟨_, _, rfl, .of (World.ownsRow_made _ #[] 0 (Nat.le_refl _) (by unfold maxLen; omega) rfl), (Below.refl _ _).alloc (Nat.le_refl _) _⟩
  · have hd : ((n : Int) != 32) = true := by simp; omega
    rw [secN, secL, hx, hasB_no (fun x => hn x.1), if_neg (by decide), if_neg (by decide)]
    go_enter Tryz.func13, Tryz.ntmps13
    go_wp2
    go_ret
    exact ⟨_, _, rfl, .of (World.ownsRow_made _ #[] 0 (Nat.le_refl _) (by unfold maxLen; omega) rfl), (Below.refl _ _).alloc (Nat.le_refl _) _⟩

end Go.Proofs.YtdjdanpicbaieaaGreatDoor
