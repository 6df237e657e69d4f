/-
  A part of the proof.
-/
import Derived.Test.YtnpffnhiefgglaaGreatDoorParw31
import Derived.Test.YtnpffnhiefgglaaGreatDoorParw14
import Derived.Test.YtnpffnhiefgglaaGreatDoorParw11
namespace Go.Proofs.YtnpffnhiefgglaaGreatDoor
open Go.RowKit
set_option maxRecDepth 100000
theorem byte_all {f g : Int → Int} (h : ((List.range 256).all fun n => f (n : Nat) == g (n : Nat)) = true) {x : Int} (h0 : 0 ≤ x) (h1 : x < 256) : f x = g x := by
  obtain ⟨n, rfl⟩ : ∃ n : Nat, x = n := ⟨x.toNat, by omega⟩
  rw [List.all_eq_true] at h
  simpa using h n (List.mem_range.2 (by omega))
theorem and248 {x : Int} (h0 : 0 ≤ x) (h1 : x < 256) : bits .and .u8 x 248 = x / 8 * 8 := byte_all (f := fun x => bits .and .u8 x 248) (g := fun x => x / 8 * 8) (by kernel_rfl) h0 h1
theorem and127 {x : Int} (h0 : 0 ≤ x) (h1 : x < 256) : bits .and .u8 x 127 = x % 128 := byte_all (f := fun x => bits .and .u8 x 127) (g := fun x => x % 128) (by kernel_rfl) h0 h1
theorem or64 {x : Int} (h0 : 0 ≤ x) (h1 : x < 256) : bits .or .u8 (x % 128) 64 = x % 64 + 64 := byte_all (f := fun x => bits .or .u8 (x % 128) 64) (g := fun x => x % 64 + 64) (by kernel_rfl) h0 h1
theorem not7 {x : Int} (h0 : 0 ≤ x) (h1 : x < 256) : bits .andNot .u8 x 7 = x / 8 * 8 := byte_all (f := fun x => bits .andNot .u8 x 7) (g := fun x => x / 8 * 8) (by kernel_rfl) h0 h1
theorem not128 {x : Int} (h0 : 0 ≤ x) (h1 : x < 256) : bits .andNot .u8 x 128 = x % 128 := byte_all (f := fun x => bits .andNot .u8 x 128) (g := fun x => x % 128) (by kernel_rfl) h0 h1
def clampR (ks : List Int) (n : Nat) : List Int := if n = 32 then clampL ks else []
theorem mapU_set (xs : List Int) (k : Nat) (v : Int) : (xs.map (Value.int .u8)).set k (.int .u8 v) = (xs.set k v).map (Value.int .u8) := List.map_set.symm
theorem rowU_cell {w : World} {lo e g n c : Nat} {xs : List Int} (h : w.ownsRow lo e 1 (.slice (some ⟨g, 0, none⟩) n c) n (xs.map (Value.int .u8))) (k : Nat) (hk : k < n) : w.cell? ⟨g, k, none⟩ = some (.int .u8 (xs.getD k 0)) := by
  have hl : xs.length = n := owns_len h
  rw [h.cellAt k (by omega)]
  simp [List.getD_eq_getElem?_getD, List.getElem?_eq_getElem (show k < xs.length by omega)]
set_option maxHeartbeats 4000000 in
theorem specClamp_any (p : Option Addr) (n c : Nat) (ks : List Int) (w : World) (hl : ks.length = n) (h : BytesIn w p n ks) (hb : ∀ x ∈ ks, 0 ≤ x ∧ x < 256) :
    Calls Tryz.prog 100 #[.slice p n c] w fun e w' => ∃ p' c', e = .returned (.slice p' (oneN n) c') ∧ Own 5 w' w.heap.size w'.heap.size (.slice p' (oneN n) c') (oneN n) (clampR ks n) ∧ Below w.heap.size w w' := by
  obtain ⟨i0, hi, hz0, hz1, hz2⟩ := info_parts infoByte
  have hown0 : (w.alloc (.cells #[] 5)).ownsRow w.heap.size 5 1 (.slice (some ⟨w.heap.size, 0, none⟩) 0 0) 0 (([] : List Int).map (Value.int .u8)) := World.ownsRow_made w #[] 0 (Nat.le_refl _) (by unfold maxLen; omega) rfl
  have hb0 : Below w.heap.size w (w.alloc (.cells #[] 5)) := (Below.refl _ _).alloc (Nat.le_refl _) _
  have h1 := in_below h hb0
  clear h
  unfold oneN clampR
  by_cases hok : n = 32
  · rw [if_pos hok, if_pos hok]
    subst hok
    have x0 := byteZ hb 0
    have x1 := byteZ hb 31
    have a0 := and248 x0.1 x0.2
    have a1 := and127 x1.1 x1.2
    have a2 := or64 x1.1 x1.2
    have hc31 : (ks.set 0 (ks.getD 0 0 / 8 * 8)).getD 31 0 = ks.getD 31 0 := by rw [List.getD_eq_getElem?_getD, List.getElem?_set_ne (by decide), ← List.getD_eq_getElem?_getD]
    unfold clampL
    obtain ⟨u, hu⟩ : ∃ u, u = ks.getD 0 0 := ⟨_, rfl⟩
    obtain ⟨v, hv⟩ : ∃ v, v = ks.getD 31 0 := ⟨_, rfl⟩
    rw [← hu] at a0 hc31 ⊢
    rw [← hv] at a1 a2 hc31 ⊢
    obtain ⟨u', hu'⟩ : ∃ u', u' = u / 8 * 8 := ⟨_, rfl⟩
    obtain ⟨v', hv'⟩ : ∃ v', v' = v % 64 + 64 := ⟨_, rfl⟩
    obtain ⟨v1, hv1⟩ : ∃ v1, v1 = v % 128 := ⟨_, rfl⟩
    rw [← hu'] at a0 hc31 ⊢
    rw [← hv1] at a1 a2
    rw [← hv'] at a2 ⊢
    clear hu' hv' hv1 x0 x1 hb
    replace hu : Hid (u = ks.getD 0 0) := hu
    replace hc31 : Hid ((ks.set 0 u').getD 31 0 = v) := hc31
    clear hv
    go_enter Tryz.func100, Tryz.ntmps100
    go_wp2_with (at_builtin; refine list_spread hi hz0 hz1 hz2 (.tmp 8) (.tmp 9) 22 Tryz.underlying22 hown0 h1 hl (by decide) (by decide) (by decide) (by simp) (by rfl) (by rfl) (by rfl) (by rfl) ?_; intro g cap w1 ho1 hg1 hb1; simp only [Nat.zero_add, List.nil_append] at ho1 ⊢; have c0 := rowU_cell ho1 0 (by decide); rw [← hu.out] at c0; have f0 := ho1.frozenAt 0; have s0 := ho1.stored 0 (.int .u8 u'); rw [mapU_set] at s0; have c1 := rowU_cell s0.1 31 (by decide); rw [hc31.out] at c1; have f1 := s0.1.frozenAt 31; have s1 := s0.1.stored 31 (.int .u8 v'); rw [mapU_set] at s1)
    go_ret
    have hlt := ho1.lt g rfl
    have k0 := hb0.trans hb1
    have k1 := k0.grown s0.2 k0.size (fun k hk => by cases hk; exact hlt.1)
    exact ⟨_, _, rfl, .of s1.1, k1.grown s1.2 k1.size (fun k hk => by cases hk; exact hlt.1)⟩
  · rw [if_neg hok, if_neg hok]
    have z1 : ((n : Int) != 32) = true := by simp; omega
    clear h1 hb
    go_enter Tryz.func100, Tryz.ntmps100
    go_wp2_with (fail)
    go_ret
    exact ⟨_, _, rfl, .of hown0, hb0⟩
theorem cloneB_any (p : Option Addr) (c : Nat) (ks : List Int) (w : World) (hl : ks.length = 32) (h : BytesIn w p 32 ks) :
    Calls Tryz.prog 121 #[.slice p 32 c] w fun e w' => ∃ g c', e = .returned (.slice (some ⟨g, 0, none⟩) 32 c') ∧ w'.ownsRow w.heap.size 5 1 (.slice (some ⟨g, 0, none⟩) 32 c') 32 (ks.map (Value.int .u8)) ∧ Below w.heap.size w w' := by
  obtain ⟨i0, hi, hz0, hz1, hz2⟩ := info_parts infoByte
  have hown0 : (w.alloc (.cells #[] 5)).ownsRow w.heap.size 5 1 (.slice (some ⟨w.heap.size, 0, none⟩) 0 0) 0 (([] : List Int).map (Value.int .u8)) := World.ownsRow_made w #[] 0 (Nat.le_refl _) (by unfold maxLen; omega) rfl
  have hb0 : Below w.heap.size w (w.alloc (.cells #[] 5)) := (Below.refl _ _).alloc (Nat.le_refl _) _
  have h1 := in_below h hb0
  obtain ⟨b, o, rfl, _⟩ := h (by decide)
  have hnil := fun w => Lib.run_eql_slice_nil (P := Tryz.prog) w 22 5 (some ⟨b, o, none⟩) 32 c 0 0 Tryz.underlying22
  simp only [Option.isNone_some] at hnil
  clear h
  go_enter Tryz.func121, Tryz.ntmps121
  go_wp2_with (at_builtin; refine list_spread hi hz0 hz1 hz2 (.tmp 5) (.tmp 6) 22 Tryz.underlying22 hown0 h1 hl (by decide) (by decide) (by decide) (by simp) (by rfl) (by rfl) (by rfl) (by rfl) ?_; intro g cap w1 ho1 hg1 hb1; simp only [Nat.zero_add, List.nil_append] at ho1 ⊢)
  go_ret
  exact ⟨_, _, rfl, ho1, hb0.trans hb1⟩
set_option maxHeartbeats 4000000 in
theorem implClamp_any (p : Option Addr) (n c : Nat) (ks : List Int) (w : World) (hl : ks.length = n) (h : BytesIn w p n ks) (hb : ∀ x ∈ ks, 0 ≤ x ∧ x < 256) :
    Calls Tryz.prog 92 #[.slice p n c] w fun e w' => ∃ p' c', e = .returned (.slice p' (oneN n) c') ∧ Own 5 w' w.heap.size w'.heap.size (.slice p' (oneN n) c') (oneN n) (clampR ks n) ∧ Below w.heap.size w w' := by
  unfold oneN clampR
  by_cases hok : n = 32
  · rw [if_pos hok, if_pos hok]
    subst hok
    have x0 := byteZ hb 0
    have x1 := byteZ hb 31
    have a0 := not7 x0.1 x0.2
    have a1 := not128 x1.1 x1.2
    have a2 := or64 x1.1 x1.2
    have hc31 : (ks.set 0 (ks.getD 0 0 / 8 * 8)).getD 31 0 = ks.getD 31 0 := by rw [List.getD_eq_getElem?_getD, List.getElem?_set_ne (by decide), ← List.getD_eq_getElem?_getD]
    have hc32 : ((ks.set 0 (ks.getD 0 0 / 8 * 8)).set 31 (ks.getD 31 0 % 128)).getD 31 0 = ks.getD 31 0 % 128 := by rw [List.getD_eq_getElem?_getD, List.getElem?_set_self (by simp [hl])]; rfl
    have hss : ((ks.set 0 (ks.getD 0 0 / 8 * 8)).set 31 (ks.getD 31 0 % 128)).set 31 (ks.getD 31 0 % 64 + 64) = (ks.set 0 (ks.getD 0 0 / 8 * 8)).set 31 (ks.getD 31 0 % 64 + 64) := List.set_set _
    have CC := cloneB_any p c ks w hl h
    unfold clampL
    obtain ⟨u, hu⟩ : ∃ u, u = ks.getD 0 0 := ⟨_, rfl⟩
    obtain ⟨v, hv⟩ : ∃ v, v = ks.getD 31 0 := ⟨_, rfl⟩
    rw [← hu] at a0 hc31 hc32 hss ⊢
    rw [← hv] at a1 a2 hc31 hc32 hss ⊢
    obtain ⟨u', hu'⟩ : ∃ u', u' = u / 8 * 8 := ⟨_, rfl⟩
    obtain ⟨v', hv'⟩ : ∃ v', v' = v % 64 + 64 := ⟨_, rfl⟩
    obtain ⟨v1, hv1⟩ : ∃ v1, v1 = v % 128 := ⟨_, rfl⟩
    rw [← hu'] at a0 hc31 hc32 hss ⊢
    rw [← hv1] at a1 a2 hc32 hss
    rw [← hv'] at a2 hss ⊢
    rw [← hss]
    clear hu' hv' hv1 x0 x1 hb h hss
    replace hu : Hid (u = ks.getD 0 0) := hu
    replace hc31 : Hid ((ks.set 0 u').getD 31 0 = v) := hc31
    replace hc32 : Hid (((ks.set 0 u').set 31 v1).getD 31 0 = v1) := hc32
    clear hv
    go_enter Tryz.func92, Tryz.ntmps92
    go_wp2_with (fail)
    refine CC.mono ?_
    rintro e w1 ⟨g, cap, rfl, ho1, hb1⟩
    have c0 := rowU_cell ho1 0 (by decide)
    rw [← hu.out] at c0
    have f0 := ho1.frozenAt 0
    have s0 := ho1.stored 0 (.int .u8 u')
    rw [mapU_set] at s0
    have c1 := rowU_cell s0.1 31 (by decide)
    rw [hc31.out] at c1
    have f1 := s0.1.frozenAt 31
    have s1 := s0.1.stored 31 (.int .u8 v1)
    rw [mapU_set] at s1
    have c2 := rowU_cell s1.1 31 (by decide)
    rw [hc32.out] at c2
    have f2 := s1.1.frozenAt 31
    have s2 := s1.1.stored 31 (.int .u8 v')
    rw [mapU_set] at s2
    have hlt := ho1.lt g rfl
    have k1 := hb1.grown s0.2 hb1.size (fun k hk => by cases hk; exact hlt.1)
    have k2 := k1.grown s1.2 k1.size (fun k hk => by cases hk; exact hlt.1)
    have hbel := k2.grown s2.2 k2.size (fun k hk => by cases hk; exact hlt.1)
    clear k1 k2
    have hown := s2.1
    clear s0 s1 s2 ho1 hb1 hlt CC
    go_wp2_with (fail)
    go_ret
    exact ⟨_, _, rfl, .of hown, hbel⟩
  · rw [if_neg hok, if_neg hok]
    have z1 : ((n : Int) != 32) = true := by simp; omega
    clear h hb
    go_enter Tryz.func92, Tryz.ntmps92
    go_wp2_with (fail)
    go_ret
    exact ⟨_, _, rfl, ⟨⟨rfl, .inl ⟨rfl, rfl⟩⟩, fun k hk => by cases hk⟩, Below.refl _ _⟩
theorem szZ {f : Nat → Int} : (Tryz.prog.info? 125).map (·.size) = some (zV f 16).length := by rw [zV_length]; exact (zero_of_info infoZ16).2
theorem szZ2 {f : Nat → Int} : (Tryz.prog.info? 125).map (·.size) = some (zV f 16).toArray.size := by
  have : (zV f 16).toArray.size = 16 := by simp [zV_length]
  rw [this]; exact (zero_of_info infoZ16).2
theorem RowZ.there2 {ty : Nat} {w : World} {lo g : Nat} {f f' : Nat → Int} (h : RowZ ty 16 w lo g f) : w.there g 0 (zV f' 16).toArray.size := by
  have : (zV f' 16).toArray.size = 16 := by simp [zV_length]
  rw [this]; exact h.there
structure IsZ (L : List Value) (f : Nat → Int) : Prop where
  eq : zV f 16 = L
theorem IsZ.sz {L : List Value} {f : Nat → Int} (h : IsZ L f) : (Tryz.prog.info? 125).map (·.size) = some L.length := by rw [← h.eq]; exact szZ
theorem IsZ.sz2 {L : List Value} {f : Nat → Int} (h : IsZ L f) : (Tryz.prog.info? 125).map (·.size) = some L.toArray.size := by rw [← h.eq]; exact szZ2
theorem IsZ.one {L : List Value} {f : Nat → Int} (h : IsZ L f) : ∀ v ∈ L, v.oneCell' = true := by rw [← h.eq]; exact zV_one f 16
theorem IsZ.range {L : List Value} {f : Nat → Int} {ty : Nat} {w : World} {lo g : Nat} (h : IsZ L f) (r : RowZ ty 16 w lo g f) : w.rangeAt g 0 L := by rw [← h.eq]; exact r.range
theorem IsZ.made {L : List Value} {f : Nat → Int} (h : IsZ L f) (w : World) (lo : Nat) (hlo : lo ≤ w.heap.size) {Z : Array Value} (hZ : Z = (zV (fun _ => 0) 16).toArray) :
    RowZ 125 16 ((w.alloc (.cells Z 125)).setCells w.heap.size 0 L) lo w.heap.size f ∧ Below w.heap.size w ((w.alloc (.cells Z 125)).setCells w.heap.size 0 L) ∧ (w.alloc (.cells Z 125)).there w.heap.size 0 L.toArray.size := by
  have m := RowZ.made w 125 16 lo (fun _ => 0) (by decide) hlo
  rw [← hZ] at m
  have p := m.put (f' := f)
  have t := m.there2 (f' := f)
  have b : Below w.heap.size w (w.alloc (.cells Z 125)) := (Below.refl _ _).alloc (Nat.le_refl _) _
  rw [h.eq] at p t
  exact ⟨p.1, b.grown p.2 (Nat.le_trans (Nat.le_refl _) b.size) (fun k hk => by cases hk; exact Nat.le_refl _), t⟩
theorem IsZ.put {L : List Value} {f f0 : Nat → Int} {w : World} {lo g : Nat} (h : IsZ L f) (r : RowZ 125 16 w lo g f0) :
    RowZ 125 16 (w.setCells g 0 L) lo g f ∧ w.grownBy (w.setCells g 0 L) (some g) ∧ w.there g 0 L.toArray.size := by
  have p := r.put (f' := f)
  have t := r.there2 (f' := f)
  rw [h.eq] at p t
  exact ⟨p.1, p.2, t⟩
theorem cAdd {La Lc Le : List Value} {fa fc : Nat → Int} (ia : IsZ La fa) (ic : IsZ Lc fc) (ie : IsZ Le (addZ fa fc)) (ha : okZ fa) (hc : okZ fc) (X : World) : Calls Tryz.prog 134 #[.agg La.toArray, .agg Lc.toArray] X fun e w' => e = .returned (.agg Le.toArray) ∧ Below X.heap.size X w' := by
  have h := l8Add_any fa fc X (fun i => by have := ha i; omega) (fun i => by have := hc i; omega)
  have h2 : zV (fun i => fa i + fc i) 16 = Le := ie.eq
  rw [h2, ia.eq, ic.eq] at h
  exact h
theorem cSub {La Lc Le : List Value} {fa fc : Nat → Int} (ia : IsZ La fa) (ic : IsZ Lc fc) (ie : IsZ Le (subZ fa fc)) (ha : okZ fa) (hc : okZ fc) (X : World) : Calls Tryz.prog 135 #[.agg La.toArray, .agg Lc.toArray] X fun e w' => e = .returned (.agg Le.toArray) ∧ Below X.heap.size X w' := by
  have h := l8Sub_any fa fc X (fun i => by have := ha i; omega) (fun i => by have := hc i; omega)
  have h2 : zV (fun i => fa i - fc i) 16 = Le := ie.eq
  rw [h2, ia.eq, ic.eq] at h
  exact h
theorem cMul {La Lc Le : List Value} {fa fc : Nat → Int} (ia : IsZ La fa) (ic : IsZ Lc fc) (ie : IsZ Le (mulZ fa fc)) (ha : okZ fa) (hc : okZ fc) (X : World) : Calls Tryz.prog 136 #[.agg La.toArray, .agg Lc.toArray] X fun e w' => e = .returned (.agg Le.toArray) ∧ Below X.heap.size X w' := by
  have h := l8Mul_any fa fc X ha hc
  rw [ie.eq, ia.eq, ic.eq] at h
  exact h
theorem mZ_set (i : Nat) : (if i = 1 then 1 else if i = 0 then 56129 else (0 : Int)) = mZ i := by
  unfold mZ
  by_cases h0 : i = 0
  · subst h0; rfl
  · by_cases h1 : i = 1
    · subst h1; rfl
    · rw [if_neg h1, if_neg h0, if_neg h0, if_neg h1]
def bitI (b : Bool) : Int := if b then 1 else 0
theorem and7 (j : Nat) (h : j < 256) : bits .and .i64 (j : Int) 7 = ((j % 8 : Nat) : Int) := by
  have e : bits .and .i64 (j : Int) 7 = IntKind.i64.wrap ((BitVec.ofInt 64 (j : Int) &&& BitVec.ofInt 64 7).toNat : Int) := rfl
  have e1 : (BitVec.ofInt 64 (j : Int)).toNat = j := by rw [BitVec.toNat_ofInt]; omega
  have e2 : (BitVec.ofInt 64 7).toNat = 2 ^ 3 - 1 := rfl
  rw [e, BitVec.toNat_and, e1, e2, Nat.and_two_pow_sub_one_eq_mod, IntKind.wrap_i64]
  omega
theorem and1 (v : Nat) (h : v < 256) : bits .and .i64 (v : Int) 1 = bitI (decide (v % 2 = 1)) := by
  have e : bits .and .i64 (v : Int) 1 = IntKind.i64.wrap ((BitVec.ofInt 64 (v : Int) &&& BitVec.ofInt 64 1).toNat : Int) := rfl
  have e1 : (BitVec.ofInt 64 (v : Int)).toNat = v := by rw [BitVec.toNat_ofInt]; omega
  have e2 : (BitVec.ofInt 64 1).toNat = 2 ^ 1 - 1 := rfl
  rw [e, BitVec.toNat_and, e1, e2, Nat.and_two_pow_sub_one_eq_mod, IntKind.wrap_i64]
  unfold bitI
  by_cases h2 : v % 2 = 1
  · simp [h2]
  · have : v % 2 = 0 := by omega
    simp [this]
end Go.Proofs.YtnpffnhiefgglaaGreatDoor
