/-
  FnTagsAdd returns true for any code, and writes nothing that was there; conditions: the code is of bytes, the program's Tag answers the tag (a code of more than 1048576 bytes is passed by).
-/
import Derived.Test.YthgnekdhldjjmabTagAdds
import Derived.Test.YthgnekdhldjjmabRegionT
import Derived.Test.YthgnekdhldjjmabDraw6
import Derived.Test.YthgnekdhldjjmabSame
import Derived.Test.YthgnekdhldjjmabBig
import Derived.BigRegion
namespace Go.Proofs.Ythgnekdhldjjmab
open Go.RowKit

theorem u8_xor (a b : Nat) (ha : a < 256) (hb : b < 256) : bits .xor .u8 (a : Int) (b : Int) = ((a ^^^ b : Nat) : Int) := by
  have e : bits .xor .u8 (a : Int) (b : Int) = IntKind.u8.wrap ((BitVec.ofInt 8 (a : Int) ^^^ BitVec.ofInt 8 (b : Int)).toNat : Int) := rfl
  have e1 : (BitVec.ofInt 8 (a : Int)).toNat = a := by rw [BitVec.toNat_ofInt]; omega
  have e2 : (BitVec.ofInt 8 (b : Int)).toNat = b := by rw [BitVec.toNat_ofInt]; omega
  have hlt : a ^^^ b < 256 := Nat.xor_lt_two_pow (n := 8) ha hb
  rw [e, BitVec.toNat_xor, e1, e2, IntKind.wrap_u8]
  omega
theorem own_byte {e : Nat} {w : World} {lo hi g n c : Nat} {ys : List Int} (h : Own e w lo hi (.slice (some ⟨g, 0, none⟩) n c) n ys) (hb : ∀ x ∈ ys, 0 ≤ x ∧ x < 256) {k : Nat} (hk : k < n) : w.cell? ⟨g, k, none⟩ = some (.int .u8 ((byN ys k : Nat) : Int)) := by
  have hl : ys.length = n := by have := h.1.1; simpa using this
  rw [h.1.cellAt k (by omega), List.getElem?_map, ← byN_cast hb k, List.getD_eq_getElem?_getD, List.getElem?_eq_getElem (by omega)]
  rfl
theorem other_facts {w : World} {lo e g co : Nat} {ys : List Int} (ho : w.ownsRow lo e 1 (.slice (some ⟨g, 0, none⟩) 32 co) 32 (ys.map (Value.int .u8))) (hl : ys.length = 32) (hb : ∀ x ∈ ys, 0 ≤ x ∧ x < 256) :
    ∃ v16 v20 : Nat, v16 < 256 ∧ v20 < 256 ∧ bits .xor .u8 ((byN ys 16 : Nat) : Int) 85 = (v16 : Int) ∧ bits .xor .u8 ((byN ys 20 : Nat) : Int) 170 = (v20 : Int) ∧ w.cell? ⟨g, 16, none⟩ = some (.int .u8 ((byN ys 16 : Nat) : Int)) ∧ w.frozen? ⟨g, 16, none⟩ = false ∧
      (w.setCell ⟨g, 16, none⟩ (.int .u8 (v16 : Int))).cell? ⟨g, 20, none⟩ = some (.int .u8 ((byN ys 20 : Nat) : Int)) ∧ (w.setCell ⟨g, 16, none⟩ (.int .u8 (v16 : Int))).frozen? ⟨g, 20, none⟩ = false ∧
      ((w.setCell ⟨g, 16, none⟩ (.int .u8 (v16 : Int))).setCell ⟨g, 20, none⟩ (.int .u8 (v20 : Int))).ownsRow lo e 1 (.slice (some ⟨g, 0, none⟩) 32 co) 32 (((ys.set 16 (v16 : Int)).set 20 (v20 : Int)).map (Value.int .u8)) ∧
      w.grownBy ((w.setCell ⟨g, 16, none⟩ (.int .u8 (v16 : Int))).setCell ⟨g, 20, none⟩ (.int .u8 (v20 : Int))) (some g) := by
  have hget : ∀ i, i < 32 → (ys.map (Value.int .u8))[i]? = some (.int .u8 ((byN ys i : Nat) : Int)) := fun i hi => by
    rw [List.getElem?_map, ← byN_cast hb i, List.getD_eq_getElem?_getD, List.getElem?_eq_getElem (by omega)]
    rfl
  have st1 := ho.stored 16 (.int .u8 ((byN ys 16 ^^^ 85 : Nat) : Int))
  have st2 := st1.1.stored 20 (.int .u8 ((byN ys 20 ^^^ 170 : Nat) : Int))
  refine ⟨byN ys 16 ^^^ 85, byN ys 20 ^^^ 170, Nat.xor_lt_two_pow (n := 8) (byN_lt hb 16) (by decide), Nat.xor_lt_two_pow (n := 8) (byN_lt hb 20) (by decide), u8_xor _ 85 (byN_lt hb 16) (by decide), u8_xor _ 170 (byN_lt hb 20) (by decide), ?_, ho.frozenAt 16, ?_, st1.1.frozenAt 20, ?_, grown_trans st1.2 st2.2⟩
  · rw [ho.cellAt 16 (by omega), hget 16 (by omega)]
  · rw [st1.1.cellAt 20 (by omega), List.getElem?_set_ne (by decide), hget 20 (by omega)]
  · have := st2.1
    rwa [← List.map_set, ← List.map_set] at this

set_option maxRecDepth 100000 in
set_option maxHeartbeats 8000000 in
theorem fnTagsAdd_small (p : Option Addr) (n c : Nat) (xs : List Int) (w : World) (hn : n ≤ 1048576) (hx : xs.length = n) (h : BytesIn w p n xs) (hr : ∀ x ∈ xs, 0 ≤ x ∧ x < 256) (hT : TagIs 7) :
    Calls Try.prog 4 #[.slice p n c] w fun e w' => e = .returned (.bool true) ∧ Below w.heap.size w w' := by
  go_enter Try.func4, Try.ntmps4
  go_wp2_with (fail)
  refine (big_small p n c _ hn).mono ?_
  rintro e w1 ⟨rfl, b1⟩
  have k1 : Below w.heap.size w w1 := below_on (Below.refl _ _) b1
  have z1 := b1.size
  go_wp2_with (fail)
  refine (drawTag_any p n c xs _ hn hx (in_below h k1) hr).mono ?_
  rintro e w2 ⟨g1', k1', c1', y1, g2', k2', c2', y2, rfl, hk1, hk2, s1, s2, hy1, hy2, b2⟩
  have k2 : Below w.heap.size w w2 := below_on k1 b2
  have z2 := b2.size
  by_cases t0 : k1' = 32
  rotate_left
  · have z0 : ((k1' : Int) != 32) = true := by simp; omega
    have eN : tagN k1' k2' = 0 := if_neg (fun h => t0 h.1)
    have CT := hT (some ⟨g1', 0, none⟩) (some ⟨g2', 0, none⟩) k1' k2' c1' c2' y1 y2 w2 s1.len s2.len s1.bytes s2.bytes hy1 hy2 s1.cap s2.cap
    rw [eN] at CT
    go_wp2_with (fail)
    refine CT.mono ?_
    rintro e w3 ⟨p3, c3, rfl, r3, b3⟩
    go_wp2_with (fail)
    go_ret
    exact ⟨rfl, below_on k2 b3⟩
  subst t0
  have eN : tagN 32 k2' = 16 := if_pos ⟨rfl, by omega⟩
  have n4 : ¬ (4000 : Int) < (k2' : Int) := by omega
  have hly := s1.len
  have hlz := s2.len
  obtain ⟨i0, hi, hz0, hz1, hz2⟩ := info_parts infoByte
  have CT := hT (some ⟨g1', 0, none⟩) (some ⟨g2', 0, none⟩) 32 k2' c1' c2' y1 y2 w2 s1.len s2.len s1.bytes s2.bytes hy1 hy2 s1.cap s2.cap
  rw [eN] at CT
  go_wp2_with (fail)
  refine CT.mono ?_
  rintro e w3 ⟨pa, ca, rfl, ra, b3⟩
  clear CT
  replace s1 := s1.on b3
  replace s2 := s2.on b3
  have k3 := below_on k2 b3
  have hown0 : (w3.alloc (.cells #[] 5)).ownsRow w3.heap.size 5 1 (.slice (some ⟨w3.heap.size, 0, none⟩) 0 0) 0 (([] : List Int).map (Value.int .u8)) := World.ownsRow_made w3 #[] 0 (Nat.le_refl _) (by unfold maxLen; omega) rfl
  have hb0 : Below w3.heap.size w3 (w3.alloc (.cells #[] 5)) := (Below.refl _ _).alloc (Nat.le_refl _) _
  have hin1 := (s1.on hb0).bytes
  go_wp2_with (at_builtin; refine list_spread hi hz0 hz1 hz2 (.tmp 36) (.tmp 37) 22 Try.underlying22 hown0 hin1 hly (by decide) (by omega) (by omega) (by simp) (by rfl) (by rfl) (by rfl) (by rfl) ?_; intro go co w4 ho hgo hb4; simp only [Nat.zero_add, List.nil_append] at ho ⊢; obtain ⟨v16, v20, l16, l20, x16, x20, d16, f16, d20, f20, ho2, hg2⟩ := other_facts ho hly hy1)
  have hlo := (ho2.lt go rfl).1
  have bo := (hb0.trans hb4).grown hg2 (hb0.trans hb4).size (fun k hk => by cases hk; exact hlo)
  obtain ⟨L', hL'⟩ : ∃ L', L' = (y1.set 16 (v16 : Int)).set 20 (v20 : Int) := ⟨_, rfl⟩
  rw [← hL'] at ho2
  have lL : L'.length = 32 := by rw [hL']; simpa using hly
  have hyL : ∀ x ∈ L', 0 ≤ x ∧ x < 256 := by
    intro x hx
    rw [hL'] at hx
    rcases List.mem_or_eq_of_mem_set hx with h1 | h1
    · rcases List.mem_or_eq_of_mem_set h1 with h2 | h2
      · exact hy1 x h2
      · omega
    · omega
  have hcg : ∀ i, i < 16 → byN y1 i = byN L' i := fun i hi => by
    rw [hL']
    unfold byN
    rw [List.getD_eq_getElem?_getD, List.getD_eq_getElem?_getD, List.getElem?_set_ne (by omega), List.getElem?_set_ne (by omega)]
  have HBS : Hid (∀ i, i < 16 → digN (bothD (tagL y1 y2) L') 0 i = digN (bothD (tagL L' y2) y1) 0 i) := both_same hly lL (by omega) hcg
  generalize (w4.setCell ⟨go, 16, none⟩ (.int .u8 (v16 : Int))).setCell ⟨go, 20, none⟩ (.int .u8 (v20 : Int)) = wo at ho2 bo ⊢
  have ro : Own 5 wo w3.heap.size wo.heap.size (.slice (some ⟨go, 0, none⟩) 32 co) 32 L' := .of ho2
  replace s1 := s1.on bo
  replace s2 := s2.on bo
  replace ra := ra.on bo
  have kw := below_on k3 bo
  clear hL' hcg x16 x20 d16 f16 d20 f20 ho ho2 hg2 hgo hb4 hin1 hown0 hb0 bo b3 k3
  have CT := hT (some ⟨go, 0, none⟩) (some ⟨g2', 0, none⟩) 32 k2' co c2' L' y2 wo ro.len s2.len ro.bytes s2.bytes hyL hy2 ro.cap s2.cap
  rw [eN] at CT
  refine CT.mono ?_
  rintro e w6 ⟨pc, cc, rfl, rc, b6⟩
  replace s1 := s1.on b6
  replace s2 := s2.on b6
  replace ra := ra.on b6
  replace ro := ro.on b6
  replace kw := below_on kw b6
  clear CT b6
  have CS := specTag_any (some ⟨g1', 0, none⟩) (some ⟨g2', 0, none⟩) 32 k2' c1' c2' y1 y2 w6 s1.len s2.len s1.bytes s2.bytes hy1 hy2 s1.cap s2.cap
  rw [eN] at CS
  go_wp2_with (fail)
  refine CS.mono ?_
  rintro e w7 ⟨ps, cs, rfl, rs, b7⟩
  replace s1 := s1.on b7
  replace ra := ra.on b7
  replace ro := ro.on b7
  replace rc := rc.on b7
  replace kw := below_on kw b7
  clear CS b7 s2
  go_wp2_with (fail)
  refine (implSame_any pa ps 16 16 ca cs (tagL y1 y2) (tagL y1 y2) w7 ra.len rs.len ra.bytes rs.bytes).mono ?_
  rintro e w8 ⟨rfl, b8⟩
  replace s1 := s1.on b8
  replace ra := ra.on b8
  replace ro := ro.on b8
  replace rc := rc.on b8
  replace kw := below_on kw b8
  clear b8 rs
  obtain ⟨ga, hga⟩ := owns_at ra.1 (by decide)
  subst hga
  obtain ⟨gc, hgc⟩ := owns_at rc.1 (by decide)
  subst hgc
  have hyA : ∀ x ∈ tagL y1 y2, 0 ≤ x ∧ x < 256 := tagL_byte _ _
  have hyC : ∀ x ∈ tagL L' y2, 0 ≤ x ∧ x < 256 := tagL_byte _ _
  have HC : Hid (∀ X k, k < 16 → Below w8.heap.size w8 X → X.cell? ⟨ga, k, none⟩ = some (.int .u8 ((byN (tagL y1 y2) k : Nat) : Int)) ∧ X.cell? ⟨go, 16 + k, none⟩ = some (.int .u8 ((byN L' (16 + k) : Nat) : Int)) ∧ X.cell? ⟨gc, k, none⟩ = some (.int .u8 ((byN (tagL L' y2) k : Nat) : Int)) ∧ X.cell? ⟨g1', 16 + k, none⟩ = some (.int .u8 ((byN y1 (16 + k) : Nat) : Int))) := fun X k hk hX => by
    have q1 := own_byte (ra.on hX) hyA (k := k) (by omega)
    have q2 := own_byte (ro.on hX) hyL (k := 16 + k) (by omega)
    have q3 := own_byte (rc.on hX) hyC (k := k) (by omega)
    have q4 := own_byte (s1.on hX) hy1 (k := 16 + k) (by omega)
    exact ⟨q1, q2, q3, q4⟩
  have hca := ra.cap
  have hcc := rc.cap
  have hco := ro.cap
  have hc1 := s1.cap
  have HU : Hid (∀ k, carN (bothD (tagL y1 y2) L') 0 k ≤ 3 ∧ carN (bothD (tagL L' y2) y1) 0 k ≤ 3) := fun k => ⟨carN_le (M := 3) (fun i => by have := bothD_lt hyA hyL i; omega) (by omega) k, carN_le (M := 3) (fun i => by have := bothD_lt hyC hy1 i; omega) (by omega) k⟩
  have HB1 : Hid (∀ i, byN (tagL y1 y2) i < 256 ∧ byN L' i < 256 ∧ byN (tagL L' y2) i < 256 ∧ byN y1 i < 256) := fun i => ⟨byN_lt hyA i, byN_lt hyL i, byN_lt hyC i, byN_lt hy1 i⟩
  clear s1 ra ro rc hyA hyC hyL
  go_wp2_with (fail)
  go_loopw [8, 9, 10] (fun u v i wr => ∃ k : Nat, k ≤ 16 ∧ i = .int .i64 k ∧ u = .int .i64 ((carN (bothD (tagL y1 y2) L') 0 k : Nat) : Int) ∧ v = .int .i64 ((carN (bothD (tagL L' y2) y1) 0 k : Nat) : Int) ∧ Below w8.heap.size w8 wr)
    (fun _ _ i _ => 16 - (intOf i).toNat)
  case atStart => exact ⟨0, by omega, rfl, rfl, rfl, Below.refl _ _⟩
  case round =>
    obtain ⟨k, hk, rfl, rfl, rfl, hb⟩ := hrel
    by_cases hlt : k < 16
    · have hlt' : (k : Int) < 16 := by omega
      obtain ⟨e1, e2, e3, e4⟩ := HC.out wr k hlt hb
      obtain ⟨u1, u2⟩ := HU.out k
      have m1 := (HB1.out k).1
      have m2 := (HB1.out (16 + k)).2.1
      have m3 := (HB1.out k).2.2.1
      have m4 := (HB1.out (16 + k)).2.2.2
      have HX : Hid (carN (bothD (tagL y1 y2) L') 0 (k + 1) = (carN (bothD (tagL y1 y2) L') 0 k + (byN (tagL y1 y2) k + byN L' (16 + k))) / 256) := rfl
      have HY : Hid (carN (bothD (tagL L' y2) y1) 0 (k + 1) = (carN (bothD (tagL L' y2) y1) 0 k + (byN (tagL L' y2) k + byN y1 (16 + k))) / 256) := rfl
      have HE : Hid ((carN (bothD (tagL y1 y2) L') 0 k + (byN (tagL y1 y2) k + byN L' (16 + k))) % 256 = (carN (bothD (tagL L' y2) y1) 0 k + (byN (tagL L' y2) k + byN y1 (16 + k))) % 256) := HBS.out k hlt
      generalize carN (bothD (tagL y1 y2) L') 0 k = a1 at u1 HX HE
      generalize carN (bothD (tagL L' y2) y1) 0 k = a2 at u2 HY HE
      generalize byN (tagL y1 y2) k = b1' at e1 m1 HX HE
      generalize byN L' (16 + k) = b2' at e2 m2 HX HE
      generalize byN (tagL L' y2) k = b3' at e3 m3 HY HE
      generalize byN y1 (16 + k) = b4' at e4 m4 HY HE
      obtain ⟨kk, hkk⟩ : ∃ kk : Nat, kk = 16 + k := ⟨_, rfl⟩
      rw [← hkk] at e2 e4
      have ekk : (16 : Int) + (k : Int) = (kk : Int) := by omega
      have lkk : (kk : Int) < 32 := by omega
      obtain ⟨X1, hX1⟩ : ∃ X1 : Nat, X1 = b1' + b2' := ⟨_, rfl⟩
      have eX1 : (b1' : Int) + (b2' : Int) = (X1 : Int) := by omega
      obtain ⟨x, hx'⟩ : ∃ x : Nat, x = a1 + (b1' + b2') := ⟨_, rfl⟩
      have ex : (X1 : Int) + (a1 : Int) = (x : Int) := by omega
      obtain ⟨Y1, hY1⟩ : ∃ Y1 : Nat, Y1 = b3' + b4' := ⟨_, rfl⟩
      have eY1 : (b3' : Int) + (b4' : Int) = (Y1 : Int) := by omega
      obtain ⟨y, hy'⟩ : ∃ y : Nat, y = a2 + (b3' + b4') := ⟨_, rfl⟩
      have ey : (Y1 : Int) + (a2 : Int) = (y : Int) := by omega
      have lx : x < 1000 := by omega
      have ly : y < 1000 := by omega
      have lX1 : X1 < 1000 := by omega
      have lY1 : Y1 < 1000 := by omega
      rw [← hx'] at HX HE
      rw [← hy'] at HY HE
      obtain ⟨z, hz'⟩ : ∃ z : Nat, z = x % 256 := ⟨_, rfl⟩
      have ax := and_255 x (by omega)
      have ay := and_255 y (by omega)
      rw [← HE.out] at ay
      rw [← hz'] at ax ay
      obtain ⟨u', hu'⟩ : ∃ u' : Nat, u' = x / 256 := ⟨_, rfl⟩
      obtain ⟨v', hv'⟩ : ∃ v' : Nat, v' = y / 256 := ⟨_, rfl⟩
      have sx : (x : Int) / 256 = (u' : Int) := by omega
      have sy : (y : Int) / 256 = (v' : Int) := by omega
      rw [← hu'] at HX
      rw [← hv'] at HY
      clear hkk hX1 hY1 hx' hy' hz' hu' hv' HE
      go_wp2_with (fail)
      go_quiet (fail)
      obtain ⟨wd, hwd⟩ : ∃ wd, wd = wr.drewN nq := ⟨_, rfl⟩
      rw [← hwd]
      have bd : Below wr.heap.size wr wd := by rw [hwd]; exact below_drewN (Below.refl _ _) _
      have e3' := (bd.cell (p := ⟨gc, k, none⟩) (World.block_lt_of_cell? wr ⟨gc, k, none⟩ e3)).trans e3
      have e4' := (bd.cell (p := ⟨g1', kk, none⟩) (World.block_lt_of_cell? wr ⟨g1', kk, none⟩ e4)).trans e4
      replace hb := below_on hb bd
      clear hwd bd e1 e2 e3 e4
      go_wp2_with (fail)
      go_quiet (fail)
      obtain ⟨we, hwe⟩ : ∃ we, we = wd.drewN nq := ⟨_, rfl⟩
      rw [← hwe]
      have be : Below wd.heap.size wd we := by rw [hwe]; exact below_drewN (Below.refl _ _) _
      replace hb := below_on hb be
      clear hwe be e3' e4' eX1 ex eY1 ey
      go_wp2_with (fail)
      go_roundw
      case rel => exact ⟨k + 1, by omega, by go_num, by rw [HX.out], by rw [HY.out], hb⟩
      case measure => simp [intOf]; omega
    · obtain rfl : k = 16 := by omega
      go_wp2_with (fail)
      go_ret
      exact ⟨rfl, below_on kw hb⟩

theorem fnTagsAdd_law (p : Option Addr) (n c : Nat) (xs : List Int) (w : World) (hx : xs.length = n) (h : BytesIn w p n xs) (hr : ∀ x ∈ xs, 0 ≤ x ∧ x < 256) (hT : TagIs 7) :
    Calls Try.prog 4 #[.slice p n c] w fun e w' => e = .returned (.bool true) ∧ Below w.heap.size w w' := by
  by_cases hn : n ≤ 1048576
  · exact fnTagsAdd_small p n c xs w hn hx h hr hT
  · go_enter Try.func4, Try.ntmps4
    go_wp2_with (fail)
    refine (big_great p n c _ hn).mono ?_
    rintro e w1 ⟨rfl, b1⟩
    go_wp2_with (fail)
    go_ret
    exact ⟨rfl, b1⟩

end Go.Proofs.Ythgnekdhldjjmab
