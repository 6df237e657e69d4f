/-
  A part of the proof.
-/
import Derived.Test.YtnpffnhiefgglaaGreatDoorParw14
import Derived.Test.YtnpffnhiefgglaaGreatDoorParw17
import Derived.Deep.RegionHeld3
import Derived.Conc.WalkWords
import Derived.BigRegion
namespace Go.Proofs.YtnpffnhiefgglaaGreatDoor
open Go.RowKit
set_option maxRecDepth 100000
theorem turned_by (x : Nat) (k : Int) (m : Nat) (w : World) (hx : x < 4294967296) (hm : countN k = m) :
    Calls Tryz.prog 213 #[.int .u32 x, .int .i64 k] w fun e w' => e = .returned (.int .u32 ((turnN x m : Nat) : Int)) ∧ w' = w := by
  subst hm
  exact turned_same x k w hx
theorem u32_sum (a b : Nat) : IntKind.u32.wrap ((a : Int) + (b : Int)) = (((a + b) % 4294967296 : Nat) : Int) := by
  rw [IntKind.wrap_u32]
  omega
theorem u32_summ (a b : Nat) : ((a : Int) + (b : Int)) % 4294967296 = (((a + b) % 4294967296 : Nat) : Int) := by omega
theorem u32_xor2 (a b : Nat) (ha : a < 4294967296) (hb : b < 4294967296) : bits .xor .u32 (a : Int) (b : Int) = ((a ^^^ b : Nat) : Int) := by
  have e : bits .xor .u32 (a : Int) (b : Int) = IntKind.u32.wrap ((BitVec.ofInt 32 (a : Int) ^^^ BitVec.ofInt 32 (b : Int)).toNat : Int) := rfl
  have e1 : (BitVec.ofInt 32 (a : Int)).toNat = a := by rw [BitVec.toNat_ofInt]; omega
  have e2 : (BitVec.ofInt 32 (b : Int)).toNat = b := by rw [BitVec.toNat_ofInt]; omega
  have hlt : a ^^^ b < 4294967296 := Nat.xor_lt_two_pow (n := 32) ha hb
  rw [e, BitVec.toNat_xor, e1, e2, IntKind.wrap_u32]
  omega
theorem xor_lt32 {a b : Nat} (ha : a < 4294967296) (hb : b < 4294967296) : a ^^^ b < 4294967296 := Nat.xor_lt_two_pow (n := 32) ha hb
theorem mod_lt32 (a : Nat) : a % 4294967296 < 4294967296 := Nat.mod_lt _ (by decide)
set_option maxHeartbeats 2400000 in
theorem quarter_same (a b c d : Nat) (w : World) (hb : b < 4294967296) (hd : d < 4294967296) :
    Calls Tryz.prog 193 #[.int .u32 (a : Int), .int .u32 (b : Int), .int .u32 (c : Int), .int .u32 (d : Int)] w fun e w' => e = .returned (.tuple #[.int .u32 ((quarterN a b c d).1 : Int), .int .u32 ((quarterN a b c d).2.1 : Int), .int .u32 ((quarterN a b c d).2.2.1 : Int), .int .u32 ((quarterN a b c d).2.2.2 : Int)]) ∧ w' = w := by
  simp only [quarterN]
  have s1 := u32_sum a b
  have m1 := u32_summ a b
  have l1 := mod_lt32 (a + b)
  generalize (a + b) % 4294967296 = a1 at s1 m1 l1 ⊢
  have x1 := u32_xor2 d a1 hd l1
  have lx1 := xor_lt32 hd l1
  generalize d ^^^ a1 = y1 at x1 lx1 ⊢
  have c1 := fun w => turned_by y1 16 16 w lx1 rfl
  have lt1 := turn_lt (m := 16) lx1 (by decide)
  generalize turnN y1 16 = d1 at c1 lt1 ⊢
  have s2 := u32_sum c d1
  have m2 := u32_summ c d1
  have l2 := mod_lt32 (c + d1)
  generalize (c + d1) % 4294967296 = c2 at s2 m2 l2 ⊢
  have x2 := u32_xor2 b c2 hb l2
  have lx2 := xor_lt32 hb l2
  generalize b ^^^ c2 = y2 at x2 lx2 ⊢
  have k2 := fun w => turned_by y2 12 12 w lx2 rfl
  have lt2 := turn_lt (m := 12) lx2 (by decide)
  generalize turnN y2 12 = b1 at k2 lt2 ⊢
  have s3 := u32_sum a1 b1
  have m3 := u32_summ a1 b1
  have l3 := mod_lt32 (a1 + b1)
  generalize (a1 + b1) % 4294967296 = a2 at s3 m3 l3 ⊢
  have x3 := u32_xor2 d1 a2 lt1 l3
  have lx3 := xor_lt32 lt1 l3
  generalize d1 ^^^ a2 = y3 at x3 lx3 ⊢
  have k3 := fun w => turned_by y3 8 8 w lx3 rfl
  have lt3 := turn_lt (m := 8) lx3 (by decide)
  generalize turnN y3 8 = d2 at k3 lt3 ⊢
  have s4 := u32_sum c2 d2
  have m4 := u32_summ c2 d2
  have l4 := mod_lt32 (c2 + d2)
  generalize (c2 + d2) % 4294967296 = c3 at s4 m4 l4 ⊢
  have x4 := u32_xor2 b1 c3 lt2 l4
  have lx4 := xor_lt32 lt2 l4
  generalize b1 ^^^ c3 = y4 at x4 lx4 ⊢
  have k4 := fun w => turned_by y4 7 7 w lx4 rfl
  generalize turnN y4 7 = b2 at k4 ⊢
  clear lt1 lt2 lt3 l1 l2 l3 l4 lx1 lx2 lx3 lx4 hb hd
  go_enter Tryz.func193, Tryz.ntmps193
  go_wp2_with (fail)
  refine (c1 _).mono ?_
  rintro e w1 ⟨rfl, rfl⟩
  go_wp2_with (fail)
  refine (k2 _).mono ?_
  rintro e w1 ⟨rfl, rfl⟩
  go_wp2_with (fail)
  refine (k3 _).mono ?_
  rintro e w1 ⟨rfl, rfl⟩
  go_wp2_with (fail)
  refine (k4 _).mono ?_
  rintro e w1 ⟨rfl, rfl⟩
  go_wp2
  (try simp only [Exit.inBlock, Exit.then])
  refine bodyPost_ret (v := .tuple #[.int .u32 (a2 : Int), .int .u32 (b2 : Int), .int .u32 (c3 : Int), .int .u32 (d2 : Int)]) ?_ rfl ⟨rfl, rfl⟩
  simp [results, asAddr]
end Go.Proofs.YtnpffnhiefgglaaGreatDoor
namespace Go.Proofs.YtnpffnhiefgglaaGreatDoor
set_option maxRecDepth 100000
def castL (S : List Nat) : List Int := S.map fun (n : Nat) => (n : Int)
theorem castL_length (S : List Nat) : (castL S).length = S.length := by simp [castL]
theorem castL_getD (S : List Nat) (k : Nat) : (castL S).getD k 0 = ((S.getD k 0 : Nat) : Int) := by
  simp only [castL, List.getD_eq_getElem?_getD, List.getElem?_map]
  cases S[k]? <;> rfl
theorem castL_set (S : List Nat) (k n : Nat) : (castL S).set k (n : Int) = castL (S.set k n) := by simp [castL, List.map_set]
def lowS (S : List Nat) : Prop := ∀ x ∈ S, x < 4294967296
theorem lowS.get {S : List Nat} (h : lowS S) (k : Nat) : S.getD k 0 < 4294967296 := by
  rw [List.getD_eq_getElem?_getD]
  cases hk : S[k]? with
  | none => decide
  | some x => exact h x (List.mem_of_getElem? hk)
theorem lowS.set {S : List Nat} (h : lowS S) (k : Nat) {n : Nat} (hn : n < 4294967296) : lowS (S.set k n) := by
  intro x hx
  rcases List.mem_or_eq_of_mem_set hx with h1 | h1
  · exact h x h1
  · rw [h1]; exact hn
theorem quarterN_low {a b c d : Nat} (hb : b < 4294967296) (hd : d < 4294967296) : (quarterN a b c d).1 < 4294967296 ∧ (quarterN a b c d).2.1 < 4294967296 ∧ (quarterN a b c d).2.2.1 < 4294967296 ∧ (quarterN a b c d).2.2.2 < 4294967296 := by
  simp only [quarterN]
  exact ⟨mod_lt32 _, turn_lt (xor_lt32 (turn_lt (xor_lt32 hb (mod_lt32 _)) (by decide)) (mod_lt32 _)) (by decide), mod_lt32 _, turn_lt (xor_lt32 (turn_lt (xor_lt32 hd (mod_lt32 _)) (by decide)) (mod_lt32 _)) (by decide)⟩
def quarterS (S : List Nat) (a b c d : Nat) : List Nat :=
  let q := quarterN (S.getD a 0) (S.getD b 0) (S.getD c 0) (S.getD d 0)
  (((S.set a q.1).set b q.2.1).set c q.2.2.1).set d q.2.2.2
theorem quarterS_length (S : List Nat) (a b c d : Nat) : (quarterS S a b c d).length = S.length := by simp [quarterS]
theorem quarterS_low {S : List Nat} (h : lowS S) (a b c d : Nat) : lowS (quarterS S a b c d) := by
  have q := quarterN_low (a := S.getD a 0) (c := S.getD c 0) (h.get b) (h.get d)
  exact (((h.set a q.1).set b q.2.1).set c q.2.2.1).set d q.2.2.2
theorem quarterL_cast {S : List Nat} (h : lowS S) (a b c d : Nat) : quarterL (castL S) a b c d = castL (quarterS S a b c d) := by
  simp only [quarterL, setQ, castL_getD, wordN_nat (h.get _), castL_set, quarterS]
def placesL : List (List Nat) := [[0, 4, 8, 12], [1, 5, 9, 13], [2, 6, 10, 14], [3, 7, 11, 15], [0, 5, 10, 15], [1, 6, 11, 12], [2, 7, 8, 13], [3, 4, 9, 14]]
def placeN (k i : Nat) : Nat := (placesL.getD k []).getD i 0
def eightS (S : List Nat) : Nat → List Nat
  | 0 => S
  | k + 1 => quarterS (eightS S k) (placeN k 0) (placeN k 1) (placeN k 2) (placeN k 3)
theorem eightS_length (S : List Nat) : ∀ k, (eightS S k).length = S.length
  | 0 => rfl
  | k + 1 => by rw [eightS, quarterS_length, eightS_length S k]
theorem eightS_low {S : List Nat} (h : lowS S) : ∀ k, lowS (eightS S k)
  | 0 => h
  | k + 1 => quarterS_low (eightS_low h k) _ _ _ _
theorem doubleL_cast {S : List Nat} (h : lowS S) : doubleL (castL S) = castL (eightS S 8) := by
  have c : ∀ k, k ≤ 4 → colsL (castL S) k = castL (eightS S k) := by
    intro k
    induction k with
    | zero => intro _; rfl
    | succ k ih =>
      intro hk
      rw [colsL, ih (by omega), quarterL_cast (eightS_low h k)]
      have h4 : k = 0 ∨ k = 1 ∨ k = 2 ∨ k = 3 := by omega
      rcases h4 with rfl | rfl | rfl | rfl <;> rfl
  have d : ∀ k, k ≤ 4 → diasL (castL (eightS S 4)) k = castL (eightS S (4 + k)) := by
    intro k
    induction k with
    | zero => intro _; rfl
    | succ k ih =>
      intro hk
      rw [diasL, ih (by omega), quarterL_cast (eightS_low h _)]
      have h4 : k = 0 ∨ k = 1 ∨ k = 2 ∨ k = 3 := by omega
      rcases h4 with rfl | rfl | rfl | rfl <;> rfl
  rw [doubleL, c 4 (by decide), d 4 (by decide)]
def tenS (S : List Nat) : Nat → List Nat
  | 0 => S
  | k + 1 => eightS (tenS S k) 8
theorem tenS_length (S : List Nat) : ∀ k, (tenS S k).length = S.length
  | 0 => rfl
  | k + 1 => by rw [tenS, eightS_length, tenS_length S k]
theorem tenS_low {S : List Nat} (h : lowS S) : ∀ k, lowS (tenS S k)
  | 0 => h
  | k + 1 => eightS_low (tenS_low h k) _
theorem tenL_cast {S : List Nat} (h : lowS S) : ∀ k, tenL (castL S) k = castL (tenS S k)
  | 0 => rfl
  | k + 1 => by rw [tenL, tenL_cast h k, doubleL_cast (tenS_low h k), tenS]
def sumS (S F : List Nat) : List Int := (List.range 16).map fun i => (((S.getD i 0 + F.getD i 0) % 4294967296 : Nat) : Int)
theorem sumS_length (S F : List Nat) : (sumS S F).length = 16 := by simp [sumS]
theorem sumS_getD (S F : List Nat) (k : Nat) (hk : k < 16) : (sumS S F).getD k 0 = (((S.getD k 0 + F.getD k 0) % 4294967296 : Nat) : Int) := by simp [sumS, hk]
theorem sumsL_cast {S F : List Nat} (hS : lowS S) (hF : lowS F) (hl : S.length = 16) : sumsL (castL S) (castL F) 16 = sumS S F := by
  rw [sumsL, List.drop_of_length_le (by rw [castL_length]; omega), List.append_nil]
  apply List.map_congr_left
  intro i _
  rw [castL_getD, castL_getD, wordN_nat (hS.get i), wordN_nat (hF.get i)]
theorem blkB_cast {F : List Nat} (hF : lowS F) (hl : F.length = 16) {ks ns : List Int} {count : Int} (h : firstL ks count ns = castL F) : blkB ks count ns = bytesL false (sumS (tenS F 10) F) := by
  rw [blkB, h, tenL_cast hF, sumsL_cast (tenS_low hF _) hF (by rw [tenS_length, hl])]
theorem firstN_set (ks ns : List Int) (count : Int) : (firstN ks 0 ns).set 12 (wordN count) = firstN ks count ns := by
  have e : firstL ks count ns = (firstL ks 0 ns).set 12 count := by
    simp only [firstL]
    rw [List.set_append_left _ _ (by simp [wordsL]), List.set_append_right _ _ (by simp [wordsL])]
    simp [wordsL]
  rw [firstN, firstN, e, List.map_set]
theorem firstL_cast (ks ns : List Int) (count : Int) (hc : 0 ≤ count ∧ count ≤ 4294967295) (hw : ∀ x ∈ wordsL false ks 8, 0 ≤ x ∧ x < 4294967296) (hv : ∀ x ∈ wordsL false ns 3, 0 ≤ x ∧ x < 4294967296) : firstL ks count ns = castL (firstN ks count ns) ∧ lowS (firstN ks count ns) := by
  have hall : ∀ x ∈ firstL ks count ns, 0 ≤ x ∧ x < 4294967296 := by
    intro x hx
    simp only [firstL, List.mem_append, List.mem_cons, List.not_mem_nil, or_false] at hx
    rcases hx with (((rfl | rfl | rfl | rfl) | h) | rfl) | h
    · decide
    · decide
    · decide
    · decide
    · exact hw x h
    · omega
    · exact hv x h
  refine ⟨?_, fun x hx => ?_⟩
  · rw [firstN, castL, List.map_map]
    conv => lhs; rw [← List.map_id (firstL ks count ns)]
    apply List.map_congr_left
    intro x hx
    have := hall x hx
    simp only [id, Function.comp, wordN]
    omega
  · simp only [firstN, List.mem_map] at hx
    obtain ⟨y, _, rfl⟩ := hx
    exact wordN_lt y
section
variable {P : Program} {ops : Array Oper} {Q : Exit → Act → World → Prop} {T S : World → Prop} {m : Nat}
def AnyT (P : Program) (ops : Array Oper) (Q : Exit → Act → World → Prop) (T S : World → Prop) (m : Nat) : Nat → Array Bool → Act → World → Prop
  | 0, listed, a, w => Region.ready .any ops listed = [] ∧ Q .normal a w
  | fuel + 1, listed, a, w => (Region.ready .any ops listed = [] → Q .normal a w) ∧ ∀ i ∈ Region.ready .any ops listed, wpOp P ops Q i (fun a' w' => T w' ∧ ((listed.setIfInBounds i true).getD m true = false → S w') ∧ AnyT P ops Q T S m fuel (listed.setIfInBounds i true) a' w') a w
theorem AnyT.any : ∀ (fuel : Nat) (listed : Array Bool) (a : Act) (w : World), AnyT P ops Q T S m fuel listed a w → wpAny P .any ops Q fuel listed a w
  | 0, _, _, _, h => h
  | fuel + 1, _, _, _, h => ⟨h.1, fun i hi => wpOp_mono (fun a' w' k => AnyT.any fuel _ a' w' k.2.2) (h.2 i hi)⟩
theorem anyT_firstS {i : Nat} {oi om : Oper} {v : Value} (hi : ops[i]? = some oi) (hm : ops[m]? = some om) (him : i ≠ m) (hwait : ∃ e ∈ om.after, Region.binds .any e = true ∧ e.on = i) (hsel : ∀ (j : Nat) (o : Oper) cs b, ops[j]? = some o → o.op ≠ .select cs b)
    (hQ : ∀ c a w, Q (.panic c) (a.put oi.dst v) w → Q (.panic c) a w) :
    ∀ (fuel : Nat) (listed : Array Bool) (a : Act) (w : World),
      (∀ j oj, ops[j]? = some oj → j ≠ i → listed.getD j true = false → (∀ e ∈ oj.after, Region.binds .any e = true → e.on ≠ i) → oi.apart ops oj = true) →
      i ∈ Region.ready .any ops listed → YieldsIf P ops (fun w => T w ∧ S w) oi v a → T w → (listed.getD m true = false → S w) → listed.getD m true = false →
      AnyT P ops Q T S m fuel (listed.setIfInBounds i true) (a.put oi.dst v) w → AnyT P ops Q T S m (fuel + 1) listed a w := by
  intro fuel
  induction fuel with
  | zero =>
    intro listed a w _ hr hy hT hS hlm H
    refine ⟨fun h => absurd hr (by rw [h]; exact List.not_mem_nil), fun j hj => ?_⟩
    by_cases hji : j = i
    · subst hji; exact hy.wpOp hi ⟨hT, hS hlm⟩ ⟨hT, fun h => hS (by rwa [getD_set_ne true him] at h), H⟩
    · exact absurd (ready_mono hj hji) (by rw [H.1]; exact List.not_mem_nil)
  | succ fuel ih =>
    intro listed a w hfree hr hy hT hS hlm H
    refine ⟨fun h => absurd hr (by rw [h]; exact List.not_mem_nil), fun j hj => ?_⟩
    by_cases hji : j = i
    · subst hji; exact hy.wpOp hi ⟨hT, hS hlm⟩ ⟨hT, fun h => hS (by rwa [getD_set_ne true him] at h), H⟩
    · have hun : listed.getD i true = false := (mem_ready.1 hr).1
      obtain ⟨hjun, oj, hoj, hall⟩ := mem_ready.1 hj
      have hnot : ∀ e ∈ oj.after, Region.binds .any e = true → e.on ≠ i := fun e he hb heq => by
        have h1 := hall e he hb
        rw [heq] at h1
        rcases Nat.lt_or_ge i listed.size with h' | h'
        · simp [h'] at hun h1
          rw [hun] at h1
          cases h1
        · simp [Array.getElem?_eq_none h'] at h1
      have hjm : j ≠ m := fun e => by
        subst e
        rw [hoj] at hm
        cases hm
        obtain ⟨e, he, hb, ho⟩ := hwait
        exact hnot e he hb ho
      have hlm' : (listed.setIfInBounds j true).getD m true = false := by rw [getD_set_ne true hjm]; exact hlm
      have h2 := wpOp_putIf hoj (hfree j oj hoj hji hjun hnot) (fun cs b => hsel i oi cs b hi) (fun cs b => hsel j oj cs b hoj) hQ hy (H.2 j (ready_mono hj hji))
      refine wpOp_mono (fun a' w' k => ?_) h2
      obtain ⟨k1, k2, k3, k4⟩ := k
      rw [Array.setIfInBounds_comm _ _ (Ne.symm hji)] at k3 k4
      have hS' : (listed.setIfInBounds j true).getD m true = false → S w' := fun h => k3 (by rw [getD_set_ne true him]; exact h)
      refine ⟨k2, hS', ih _ a' w' (fun q oq hq hqi hqu hqn => hfree q oq hq hqi ?_ hqn) (ready_mono hr (Ne.symm hji)) k1 k2 hS' hlm' k4⟩
      by_cases hjq : j = q
      · subst hjq; exact hjun
      · rw [getD_set_ne true hjq] at hqu; exact hqu
theorem anyT_firstT {i : Nat} {oi : Oper} {v : Value} (hi : ops[i]? = some oi) (him : i ≠ m) (hsel : ∀ (j : Nat) (o : Oper) cs b, ops[j]? = some o → o.op ≠ .select cs b)
    (hQ : ∀ c a w, Q (.panic c) (a.put oi.dst v) w → Q (.panic c) a w) :
    ∀ (fuel : Nat) (listed : Array Bool) (a : Act) (w : World),
      (∀ j oj, ops[j]? = some oj → j ≠ i → listed.getD j true = false → (∀ e ∈ oj.after, Region.binds .any e = true → e.on ≠ i) → oi.apart ops oj = true) →
      i ∈ Region.ready .any ops listed → YieldsIf P ops T oi v a → T w → (listed.getD m true = false → S w) →
      AnyT P ops Q T S m fuel (listed.setIfInBounds i true) (a.put oi.dst v) w → AnyT P ops Q T S m (fuel + 1) listed a w := by
  intro fuel
  induction fuel with
  | zero =>
    intro listed a w _ hr hy hT hS H
    refine ⟨fun h => absurd hr (by rw [h]; exact List.not_mem_nil), fun j hj => ?_⟩
    by_cases hji : j = i
    · subst hji; exact hy.wpOp hi hT ⟨hT, fun h => hS (by rwa [getD_set_ne true him] at h), H⟩
    · exact absurd (ready_mono hj hji) (by rw [H.1]; exact List.not_mem_nil)
  | succ fuel ih =>
    intro listed a w hfree hr hy hT hS H
    refine ⟨fun h => absurd hr (by rw [h]; exact List.not_mem_nil), fun j hj => ?_⟩
    by_cases hji : j = i
    · subst hji; exact hy.wpOp hi hT ⟨hT, fun h => hS (by rwa [getD_set_ne true him] at h), H⟩
    · have hun : listed.getD i true = false := (mem_ready.1 hr).1
      obtain ⟨hjun, oj, hoj, hall⟩ := mem_ready.1 hj
      have hnot : ∀ e ∈ oj.after, Region.binds .any e = true → e.on ≠ i := fun e he hb heq => by
        have h1 := hall e he hb
        rw [heq] at h1
        rcases Nat.lt_or_ge i listed.size with h' | h'
        · simp [h'] at hun h1
          rw [hun] at h1
          cases h1
        · simp [Array.getElem?_eq_none h'] at h1
      have h2 := wpOp_putIf hoj (hfree j oj hoj hji hjun hnot) (fun cs b => hsel i oi cs b hi) (fun cs b => hsel j oj cs b hoj) hQ hy (H.2 j (ready_mono hj hji))
      refine wpOp_mono (fun a' w' k => ?_) h2
      obtain ⟨k1, k2, k3, k4⟩ := k
      rw [Array.setIfInBounds_comm _ _ (Ne.symm hji)] at k3 k4
      have hS' : (listed.setIfInBounds j true).getD m true = false → S w' := fun h => k3 (by rw [getD_set_ne true him]; exact h)
      refine ⟨k2, hS', ih _ a' w' (fun q oq hq hqi hqu hqn => hfree q oq hq hqi ?_ hqn) (ready_mono hr (Ne.symm hji)) k1 k2 hS' k4⟩
      by_cases hjq : j = q
      · subst hjq; exact hjun
      · rw [getD_set_ne true hjq] at hqu; exact hqu
theorem anyT_takeS {i : Nat} {oi om : Oper} {v : Value} {fuel : Nat} {listed : Array Bool} {a : Act} {w : World} (hi : ops[i]? = some oi) (hm : ops[m]? = some om) (him : (i != m && om.after.any (fun e => Region.binds .any e && e.on == i)) = true)
    (hs : Region.noSelect ops = true) (hf : Region.free .any ops listed i = true) (hr : (Region.ready .any ops listed).contains i = true) (hlm : listed.getD m true = false)
    (hQ : ∀ c a w, Q (.panic c) (a.put oi.dst v) w → Q (.panic c) a w) (hy : YieldsIf P ops (fun w => T w ∧ S w) oi v a) (hT : T w) (hS : S w)
    (h : AnyT P ops Q T S m fuel (listed.setIfInBounds i true) (a.put oi.dst v) w) : AnyT P ops Q T S m (fuel + 1) listed a w := by
  rw [Bool.and_eq_true] at him
  refine anyT_firstS hi hm (by simpa using him.1) ?_ (Region.noSelect_spec hs) hQ fuel listed a w (Region.free_spec hi hf) (by simpa using hr) hy hT (fun _ => hS) hlm h
  obtain ⟨e, he, hb⟩ := Array.any_eq_true'.1 him.2
  rw [Bool.and_eq_true] at hb
  exact ⟨e, he, hb.1, by simpa using hb.2⟩
theorem anyT_takeT {i : Nat} {oi : Oper} {v : Value} {fuel : Nat} {listed : Array Bool} {a : Act} {w : World} (hi : ops[i]? = some oi) (him : (i != m) = true)
    (hs : Region.noSelect ops = true) (hf : Region.free .any ops listed i = true) (hr : (Region.ready .any ops listed).contains i = true)
    (hQ : ∀ c a w, Q (.panic c) (a.put oi.dst v) w → Q (.panic c) a w) (hy : YieldsIf P ops T oi v a) (hT : T w) (hS : listed.getD m true = false → S w)
    (h : AnyT P ops Q T S m fuel (listed.setIfInBounds i true) (a.put oi.dst v) w) : AnyT P ops Q T S m (fuel + 1) listed a w :=
  anyT_firstT hi (by simpa using him) (Region.noSelect_spec hs) hQ fuel listed a w (Region.free_spec hi hf) (by simpa using hr) hy hT hS h
theorem anyT_one {i : Nat} {o : Oper} {fuel : Nat} {listed : Array Bool} {a : Act} {w : World} (hr : Region.ready .any ops listed = [i]) (ho : ops[i]? = some o)
    (h : ∀ K' : Act → World → Prop, Go.Shut (∀ a w, T w → ((listed.setIfInBounds i true).getD m true = false → S w) → AnyT P ops Q T S m fuel (listed.setIfInBounds i true) a w → K' a w) → if Region.wanted o (yielded ops a.tmps) = true then Oper.wp P o a w K' Q else K' (a.put o.dst undef) w) :
    AnyT P ops Q T S m (fuel + 1) listed a w := by
  refine ⟨fun e => absurd (hr.symm.trans e) (by simp), fun j hj => ?_⟩
  rw [hr, List.mem_singleton] at hj
  subst hj
  exact wpOp_step ho (fun K' hK => h K' (fun a w h0 h1 h2 => hK a w ⟨h0, h1, h2⟩))
theorem anyT_done {listed : Array Bool} {a : Act} {w : World} (hr : Region.ready .any ops listed = []) (h : Q .normal a w) : ∀ fuel, AnyT P ops Q T S m fuel listed a w
  | 0 => ⟨hr, h⟩
  | _ + 1 => ⟨fun _ => h, by rw [hr]; simp⟩
theorem wp_region_T (m : Nat) (T S : World → Prop) {id : Nat} {a : Act} {w : World} (hm : P.follows .mixedOrders = true) (h : AnyT P ops Q T S m ops.size (Array.replicate ops.size false) a w.drew) : (Code.region id ops true).wp P Q a w :=
  wp_region_any hm (h.any)
end
end Go.Proofs.YtnpffnhiefgglaaGreatDoor
namespace Go.Proofs.YtnpffnhiefgglaaGreatDoor
open Go.RowKit
set_option maxRecDepth 100000
def placesC : List Value := (placesL.flatten).map fun (n : Nat) => Value.int .i64 (n : Int)
def PlacesIs (w : World) : Prop := w.rangeAt 1 0 placesC
def fourV (k : Nat) : Array Value := #[.int .i64 (placeN k 0 : Int), .int .i64 (placeN k 1 : Int), .int .i64 (placeN k 2 : Int), .int .i64 (placeN k 3 : Int)]
theorem indexPlaces (k : Nat) (hk : k < 8) (w : World) : (Instr.index 213 (.agg placesC.toArray) (.int .i64 (k : Int))).run Tryz.prog w = .ok (.agg (fourV k)) w := by
  have i0 : ∀ w : World, (Instr.index 213 (.agg placesC.toArray) (.int .i64 0)).run Tryz.prog w = .ok (.agg (fourV 0)) w := fun _ => by kernel_rfl
  have i1 : ∀ w : World, (Instr.index 213 (.agg placesC.toArray) (.int .i64 1)).run Tryz.prog w = .ok (.agg (fourV 1)) w := fun _ => by kernel_rfl
  have i2 : ∀ w : World, (Instr.index 213 (.agg placesC.toArray) (.int .i64 2)).run Tryz.prog w = .ok (.agg (fourV 2)) w := fun _ => by kernel_rfl
  have i3 : ∀ w : World, (Instr.index 213 (.agg placesC.toArray) (.int .i64 3)).run Tryz.prog w = .ok (.agg (fourV 3)) w := fun _ => by kernel_rfl
  have i4 : ∀ w : World, (Instr.index 213 (.agg placesC.toArray) (.int .i64 4)).run Tryz.prog w = .ok (.agg (fourV 4)) w := fun _ => by kernel_rfl
  have i5 : ∀ w : World, (Instr.index 213 (.agg placesC.toArray) (.int .i64 5)).run Tryz.prog w = .ok (.agg (fourV 5)) w := fun _ => by kernel_rfl
  have i6 : ∀ w : World, (Instr.index 213 (.agg placesC.toArray) (.int .i64 6)).run Tryz.prog w = .ok (.agg (fourV 6)) w := fun _ => by kernel_rfl
  have i7 : ∀ w : World, (Instr.index 213 (.agg placesC.toArray) (.int .i64 7)).run Tryz.prog w = .ok (.agg (fourV 7)) w := fun _ => by kernel_rfl
  have h8 : k = 0 ∨ k = 1 ∨ k = 2 ∨ k = 3 ∨ k = 4 ∨ k = 5 ∨ k = 6 ∨ k = 7 := by omega
  rcases h8 with rfl | rfl | rfl | rfl | rfl | rfl | rfl | rfl
  · exact i0 w
  · exact i1 w
  · exact i2 w
  · exact i3 w
  · exact i4 w
  · exact i5 w
  · exact i6 w
  · exact i7 w
theorem infoFour : (Tryz.prog.info? 212).map (fun i => (i.zero, i.size)) = some (some (.agg #[.int .i64 0, .int .i64 0, .int .i64 0, .int .i64 0]), 4) := by kernel_rfl
theorem infoPlaces : (Tryz.prog.info? 213).map (·.size) = some 32 := by kernel_rfl
theorem placeN_lt (k i : Nat) (hk : k < 8) (hi : i < 4) : placeN k i < 16 := by
  have h8 : k = 0 ∨ k = 1 ∨ k = 2 ∨ k = 3 ∨ k = 4 ∨ k = 5 ∨ k = 6 ∨ k = 7 := by omega
  have h4 : i = 0 ∨ i = 1 ∨ i = 2 ∨ i = 3 := by omega
  rcases h8 with rfl | rfl | rfl | rfl | rfl | rfl | rfl | rfl <;> rcases h4 with rfl | rfl | rfl | rfl <;> decide
theorem placeN_ne (k : Nat) (hk : k < 8) : placeN k 0 ≠ placeN k 1 ∧ placeN k 0 ≠ placeN k 2 ∧ placeN k 0 ≠ placeN k 3 ∧ placeN k 1 ≠ placeN k 2 ∧ placeN k 1 ≠ placeN k 3 ∧ placeN k 2 ≠ placeN k 3 := by
  have h8 : k = 0 ∨ k = 1 ∨ k = 2 ∨ k = 3 ∨ k = 4 ∨ k = 5 ∨ k = 6 ∨ k = 7 := by omega
  rcases h8 with rfl | rfl | rfl | rfl | rfl | rfl | rfl | rfl <;> decide
set_option maxHeartbeats 4000000 in
theorem block_any (S F : List Nat) (count : Int) (w : World) (hl : S.length = 16) (hF : F = S.set 12 (wordN count)) (hS : lowS F) (hP : PlacesIs w) :
    Calls Tryz.prog 144 #[.agg (strL S).toArray, .int .i64 count] w fun e w' => ∃ p' c', e = .returned (.slice p' 64 c') ∧ Own 5 w' w.heap.size w'.heap.size (.slice p' 64 c') 64 (bytesL false (sumS (tenS F 10) F)) ∧ Below w.heap.size w w' := by
  have hz := (zero_of_info infoStr).1
  have hsz0 := (zero_of_info infoStr).2
  have lF : F.length = 16 := by rw [hF]; simpa using hl
  have hu := wordN_eq count
  generalize wordN count = u at hF hu
  have mu : count % 4294967296 = (u : Int) := hu.symm
  have wu : IntKind.u32.wrap count = (u : Int) := by rw [IntKind.wrap_u32]; exact mu
  have eF : (strL S).set 12 (.int .u32 (u : Int)) = strL F := by rw [hF]; simp [strL, List.map_set]
  have m0 := StrIs.made w w.heap.size F lF (Nat.le_refl _)
  obtain ⟨WA, hWA⟩ : ∃ WA, WA = w.alloc (.cells (strL F).toArray 131) := ⟨_, rfl⟩
  have hWA' : w.alloc (.cells ((strL S).set 12 (.int .u32 (u : Int))).toArray 131) = WA := by rw [eF, hWA]
  have ba : Below w.heap.size w WA := by rw [hWA]; exact (Below.refl _ _).alloc (Nat.le_refl _) _
  have sa : WA.heap.size = w.heap.size + 1 := by rw [hWA]; simp
  rw [← hWA] at m0
  have hsC : (strL F).toArray.size = 16 := by simp [strL_length, lF]
  have hone : ∀ v ∈ strL F, v.oneCell' = true := strL_one _
  have hsz : (Tryz.prog.info? 131).map (·.size) = some (strL F).length := by rw [strL_length, lF]; exact hsz0
  have hsz2 : (Tryz.prog.info? 131).map (·.size) = some (strL F).toArray.size := by rw [hsC]; exact hsz0
  have hra := m0.range
  have m1 := StrIs.made WA w.heap.size zero16 rfl (by omega)
  rw [sa] at m1
  have bb : Below WA.heap.size WA (WA.alloc (.cells (strL zero16).toArray 131)) := (Below.refl _ _).alloc (Nat.le_refl _) _
  obtain ⟨Z, hZ⟩ : ∃ Z, Z = (strL zero16).toArray := ⟨_, rfl⟩
  rw [← hZ] at hz m1 bb
  clear hZ
  have hth : (WA.alloc (.cells Z 131)).there (w.heap.size + 1) 0 (strL F).toArray.size := by rw [hsC]; exact m1.there
  have h3 := m1.put lF
  have h2 := (m0.below bb).kept h3.2 (by omega)
  have bel := (below_on ba bb).grown h3.2 (below_on ba bb).size (fun k hk => by cases hk; omega)
  obtain ⟨Cs, hCs⟩ : ∃ Cs, Cs = strL F := ⟨_, rfl⟩
  rw [← hCs] at hra hsz hsz2 hth hone
  have h12 : (strL S)[12]? = some (.int .u32 ((S.getD 12 0 : Nat) : Int)) := strL_get S 12 (by omega)
  have l12 : (strL S).length = 16 := by rw [strL_length, hl]
  obtain ⟨C0, hC0⟩ : ∃ C0, C0 = strL S := ⟨_, rfl⟩
  rw [← hC0] at hWA' h12 l12 ⊢
  have g12 : 12 < C0.length := by omega
  replace hCs : Hid (Cs = strL F) := hCs
  clear hC0 hF eF hWA m0 m1 ba bb hu
  go_enter Tryz.func144, Tryz.ntmps144
  go_wp2_with (first | (refine wpList_load_mid rfl 131 _ rfl w.heap.size 0 rfl Cs _ hra Tryz.underlying131 rfl hsz ?_) | (refine wpList_store_mid rfl 131 _ _ rfl (w.heap.size + 1) 0 Cs.toArray rfl rfl hth hsz2 (all_oneCell_toArray hone) ?_))
  obtain ⟨GF, hGF⟩ : ∃ GF, GF = w.heap.size + 1 := ⟨_, rfl⟩
  rw [← hGF] at h2 h3 bel ⊢
  have hge : w.heap.size < GF := by omega
  rw [← hCs.out] at h2 h3 bel
  have h31 := h3.1
  generalize (WA.alloc (.cells Z 131)).setCells GF 0 Cs = wb at h2 h31 bel ⊢
  clear h3 hra hth hWA' sa hGF hz h12 l12 g12 mu wu hsC hone hsz hsz2 hsz0
  have hgp : 1 < w.heap.size := World.block_lt_of_cell? w ⟨1, 0 + 0, none⟩ (hP 0 _ rfl)
  have HP : Hid (∀ X, Below w.heap.size w X → X.rangeAt 1 0 placesC) := fun X hX j v hv => (hX.cell (p := ⟨1, 0 + j, none⟩) hgp).trans (hP j v hv)
  have hszP : (Tryz.prog.info? 213).map (·.size) = some placesC.length := infoPlaces
  have HX : Hid (∀ k : Nat, k < 8 → ∀ w : World, (Instr.index 213 (.agg placesC.toArray) (.int .i64 (k : Int))).run Tryz.prog w = .ok (.agg (fourV k)) w) := indexPlaces
  generalize placesC = PC at HP hszP HX
  have hz4 := (zero_of_info infoFour).1
  have HT : Hid (∀ k, eightS (tenS F k) 8 = tenS F (k + 1)) := fun _ => rfl
  have HL : Hid (∀ k, lowS (tenS F k)) := tenS_low hS
  clear hP hgp
  go_loopw [14] (fun i wr => ∃ k : Nat, k ≤ 10 ∧ i = .int .i64 k ∧ StrIs wr w.heap.size w.heap.size (tenS F k) ∧ StrIs wr w.heap.size GF F ∧ Below w.heap.size w wr)
    (fun i _ => 10 - (intOf i).toNat)
  case atStart => exact ⟨0, by omega, rfl, h2, h31, bel⟩
  case round =>
    clear h2 h31 bel
    obtain ⟨k, hk, rfl, h2, h3, bel⟩ := hrel
    by_cases hlt : k < 10
    · have hlt' : (k : Int) < 10 := by omega
      have HTk : Hid (eightS (tenS F k) 8 = tenS F (k + 1)) := HT.out k
      have hLk := HL.out k
      generalize tenS F k = A at h2 HTk hLk
      have hra := HP.out _ bel
      go_wp2_with (refine wpList_load_mid rfl 213 _ rfl 1 0 rfl PC _ hra Tryz.underlying213 rfl hszP ?_)
      clear hra
      have h20 : StrIs wr w.heap.size w.heap.size (eightS A 0) := h2
      go_loopw [17] (fun i wr => ∃ j : Nat, j ≤ 8 ∧ i = .int .i64 j ∧ StrIs wr w.heap.size w.heap.size (eightS A j) ∧ StrIs wr w.heap.size GF F ∧ Below w.heap.size w wr)
        (fun i _ => 8 - (intOf i).toNat)
      case atStart => exact ⟨0, by omega, rfl, h20, h3, bel⟩
      case round =>
        clear h20 h2 h3 bel
        obtain ⟨j, hj, rfl, h2, h3, bel⟩ := hrel
        by_cases hltj : j < 8
        · have hltj' : (j : Int) < 8 := by omega
          have hix := HX.out j hltj
          unfold fourV at hix
          have p0 := placeN_lt j 0 hltj (by decide)
          have p1 := placeN_lt j 1 hltj (by decide)
          have p2 := placeN_lt j 2 hltj (by decide)
          have p3 := placeN_lt j 3 hltj (by decide)
          have HD : Hid _ := placeN_ne j hltj
          have HE : Hid (quarterS (eightS A j) (placeN j 0) (placeN j 1) (placeN j 2) (placeN j 3) = eightS A (j + 1)) := rfl
          have hlow := eightS_low hLk j
          generalize eightS A j = E at h2 HE hlow
          generalize placeN j 0 = ia at hix p0 HD HE
          generalize placeN j 1 = ib at hix p1 HD HE
          generalize placeN j 2 = ic at hix p2 HD HE
          generalize placeN j 3 = id at hix p3 HD HE
          obtain ⟨ea, hea⟩ : ∃ ea, ea = E.getD ia 0 := ⟨_, rfl⟩
          obtain ⟨eb, heb⟩ : ∃ eb, eb = E.getD ib 0 := ⟨_, rfl⟩
          obtain ⟨ec, hec⟩ : ∃ ec, ec = E.getD ic 0 := ⟨_, rfl⟩
          obtain ⟨ed, hed⟩ : ∃ ed, ed = E.getD id 0 := ⟨_, rfl⟩
          have la : ea < 4294967296 := by rw [hea]; exact hlow.get _
          have lb : eb < 4294967296 := by rw [heb]; exact hlow.get _
          have lc : ec < 4294967296 := by rw [hec]; exact hlow.get _
          have ld : ed < 4294967296 := by rw [hed]; exact hlow.get _
          have CQ := fun X => quarter_same ea eb ec ed X lb ld
          unfold quarterS at HE
          rw [← hea, ← heb, ← hec, ← hed] at HE
          simp only at CQ HE
          have lq := quarterN_low (a := ea) (c := ec) lb ld
          generalize quarterN ea eb ec ed = q at CQ lq HE
          obtain ⟨qa, qb, qc, qd⟩ := q
          simp only at CQ lq HE
          obtain ⟨l1, l2, l3, l4⟩ := lq
          obtain ⟨GP, hGP⟩ : ∃ GP, GP = wr.heap.size := ⟨_, rfl⟩
          have r1 : (ia : Int) < 16 := by omega
          have r2 : (ib : Int) < 16 := by omega
          have r3 : (ic : Int) < 16 := by omega
          have r4 : (id : Int) < 16 := by omega
          have hsw := bel.size
          have hne1 : w.heap.size ≠ GP := by have := h2.lt; omega
          go_wp2_with (fail)
          have bP : Below wr.heap.size wr (wr.alloc (.cells #[.int .i64 (ia : Int), .int .i64 (ib : Int), .int .i64 (ic : Int), .int .i64 (id : Int)] 212)) := (Below.refl _ _).alloc (Nat.le_refl _) _
          have hT0 : ∀ X, Below (wr.heap.size + 1) (wr.alloc (.cells #[.int .i64 (ia : Int), .int .i64 (ib : Int), .int .i64 (ic : Int), .int .i64 (id : Int)] 212)) X → X.cell? ⟨wr.heap.size, 0, none⟩ = some (.int .i64 (ia : Int)) ∧ X.cell? ⟨wr.heap.size, 1, none⟩ = some (.int .i64 (ib : Int)) ∧ X.cell? ⟨wr.heap.size, 2, none⟩ = some (.int .i64 (ic : Int)) ∧ X.cell? ⟨wr.heap.size, 3, none⟩ = some (.int .i64 (id : Int)) := fun X hX => by
            have hc := fun i : Nat => hX.cell (p := ⟨wr.heap.size, i, none⟩) (Nat.lt_succ_self _)
            exact ⟨(hc 0).trans (cell_of_row _ _ _ _ _ _ (heap_alloc_new wr _)), (hc 1).trans (cell_of_row _ _ _ _ _ _ (heap_alloc_new wr _)), (hc 2).trans (cell_of_row _ _ _ _ _ _ (heap_alloc_new wr _)), (hc 3).trans (cell_of_row _ _ _ _ _ _ (heap_alloc_new wr _))⟩
          have hT := hT0 _ ((Below.refl _ _).drew)
          have gT : ∀ X Y : World, X.grownBy Y (some w.heap.size) → GP < X.heap.size → (X.cell? ⟨GP, 0, none⟩ = some (.int .i64 (ia : Int)) ∧ X.cell? ⟨GP, 1, none⟩ = some (.int .i64 (ib : Int)) ∧ X.cell? ⟨GP, 2, none⟩ = some (.int .i64 (ic : Int)) ∧ X.cell? ⟨GP, 3, none⟩ = some (.int .i64 (id : Int))) → (Y.cell? ⟨GP, 0, none⟩ = some (.int .i64 (ia : Int)) ∧ Y.cell? ⟨GP, 1, none⟩ = some (.int .i64 (ib : Int)) ∧ Y.cell? ⟨GP, 2, none⟩ = some (.int .i64 (ic : Int)) ∧ Y.cell? ⟨GP, 3, none⟩ = some (.int .i64 (id : Int))) := fun X Y hg hl h => by
            have hc := fun i : Nat => cell_grownQ (p := ⟨GP, i, none⟩) hg hl (Ne.symm hne1)
            exact ⟨(hc 0).trans h.1, (hc 1).trans h.2.1, (hc 2).trans h.2.2.1, (hc 3).trans h.2.2.2⟩
          replace h2 := (h2.below bP).below ((Below.refl _ _).drew)
          replace h3 := (h3.below bP).below ((Below.refl _ _).drew)
          have belX := below_on (below_on bel bP) ((Below.refl _ _).drew)
          have hGl : GP < (wr.alloc (.cells #[.int .i64 (ia : Int), .int .i64 (ib : Int), .int .i64 (ic : Int), .int .i64 (id : Int)] 212)).drew.heap.size := by rw [hGP]; simp
          rw [← hGP] at hT ⊢
          clear hT0 bP bel hGP
          refine wp_region_noPanic ?_
          refine wp_region_T 31 (fun X => X.cell? ⟨GP, 0, none⟩ = some (.int .i64 (ia : Int)) ∧ X.cell? ⟨GP, 1, none⟩ = some (.int .i64 (ib : Int)) ∧ X.cell? ⟨GP, 2, none⟩ = some (.int .i64 (ic : Int)) ∧ X.cell? ⟨GP, 3, none⟩ = some (.int .i64 (id : Int))) (fun X => X.cell? ⟨w.heap.size, ia, none⟩ = some (.int .u32 (ea : Int)) ∧ X.cell? ⟨w.heap.size, ib, none⟩ = some (.int .u32 (eb : Int)) ∧ X.cell? ⟨w.heap.size, ic, none⟩ = some (.int .u32 (ec : Int)) ∧ X.cell? ⟨w.heap.size, id, none⟩ = some (.int .u32 (ed : Int))) (by kernel_rfl) ?_
          generalize (wr.alloc (.cells #[.int .i64 (ia : Int), .int .i64 (ib : Int), .int .i64 (ic : Int), .int .i64 (id : Int)] 212)).drew = wX at hT h2 h3 belX hGl ⊢
          have hS : wX.cell? ⟨w.heap.size, ia, none⟩ = some (.int .u32 (ea : Int)) ∧ wX.cell? ⟨w.heap.size, ib, none⟩ = some (.int .u32 (eb : Int)) ∧ wX.cell? ⟨w.heap.size, ic, none⟩ = some (.int .u32 (ec : Int)) ∧ wX.cell? ⟨w.heap.size, id, none⟩ = some (.int .u32 (ed : Int)) := ⟨by rw [hea]; exact h2.cell ia p0, by rw [heb]; exact h2.cell ib p1, by rw [hec]; exact h2.cell ic p2, by rw [hed]; exact h2.cell id p3⟩
          clear hea heb hec hed
          refine anyT_takeT (i := 0) (v := .pointer (some ⟨GP, 0, none⟩)) rfl (by kernel_rfl) (by kernel_rfl) (by kernel_rfl) (by kernel_rfl) (fun _ _ _ h => h) (Or.inl ⟨by rfl, fun X hSw => by ((try dsimp only at hSw); go_simp)⟩) hT (fun _ => hS) ?_
          walk_nrm
          refine anyT_takeT (i := 1) (v := .int .i64 (ia : Int)) rfl (by kernel_rfl) (by kernel_rfl) (by kernel_rfl) (by kernel_rfl) (fun _ _ _ h => h) (Or.inl ⟨by rfl, fun X hSw => by (obtain ⟨q1, q2, q3, q4⟩ := hSw; go_simp)⟩) hT (fun _ => hS) ?_
          walk_nrm
          refine anyT_takeT (i := 2) (v := .pointer (some ⟨GP, 1, none⟩)) rfl (by kernel_rfl) (by kernel_rfl) (by kernel_rfl) (by kernel_rfl) (fun _ _ _ h => h) (Or.inl ⟨by rfl, fun X hSw => by ((try dsimp only at hSw); go_simp)⟩) hT (fun _ => hS) ?_
          walk_nrm
          refine anyT_takeT (i := 3) (v := .int .i64 (ib : Int)) rfl (by kernel_rfl) (by kernel_rfl) (by kernel_rfl) (by kernel_rfl) (fun _ _ _ h => h) (Or.inl ⟨by rfl, fun X hSw => by (obtain ⟨q1, q2, q3, q4⟩ := hSw; go_simp)⟩) hT (fun _ => hS) ?_
          walk_nrm
          refine anyT_takeT (i := 4) (v := .pointer (some ⟨GP, 2, none⟩)) rfl (by kernel_rfl) (by kernel_rfl) (by kernel_rfl) (by kernel_rfl) (fun _ _ _ h => h) (Or.inl ⟨by rfl, fun X hSw => by ((try dsimp only at hSw); go_simp)⟩) hT (fun _ => hS) ?_
          walk_nrm
          refine anyT_takeT (i := 5) (v := .int .i64 (ic : Int)) rfl (by kernel_rfl) (by kernel_rfl) (by kernel_rfl) (by kernel_rfl) (fun _ _ _ h => h) (Or.inl ⟨by rfl, fun X hSw => by (obtain ⟨q1, q2, q3, q4⟩ := hSw; go_simp)⟩) hT (fun _ => hS) ?_
          walk_nrm
          refine anyT_takeT (i := 6) (v := .pointer (some ⟨GP, 3, none⟩)) rfl (by kernel_rfl) (by kernel_rfl) (by kernel_rfl) (by kernel_rfl) (fun _ _ _ h => h) (Or.inl ⟨by rfl, fun X hSw => by ((try dsimp only at hSw); go_simp)⟩) hT (fun _ => hS) ?_
          walk_nrm
          refine anyT_takeT (i := 7) (v := .int .i64 (id : Int)) rfl (by kernel_rfl) (by kernel_rfl) (by kernel_rfl) (by kernel_rfl) (fun _ _ _ h => h) (Or.inl ⟨by rfl, fun X hSw => by (obtain ⟨q1, q2, q3, q4⟩ := hSw; go_simp)⟩) hT (fun _ => hS) ?_
          walk_nrm
          refine anyT_takeT (i := 8) (v := .pointer (some ⟨GP, 0, none⟩)) rfl (by kernel_rfl) (by kernel_rfl) (by kernel_rfl) (by kernel_rfl) (fun _ _ _ h => h) (Or.inl ⟨by rfl, fun X hSw => by ((try dsimp only at hSw); go_simp)⟩) hT (fun _ => hS) ?_
          walk_nrm
          refine anyT_takeT (i := 9) (v := .int .i64 (ia : Int)) rfl (by kernel_rfl) (by kernel_rfl) (by kernel_rfl) (by kernel_rfl) (fun _ _ _ h => h) (Or.inl ⟨by rfl, fun X hSw => by (obtain ⟨q1, q2, q3, q4⟩ := hSw; go_simp)⟩) hT (fun _ => hS) ?_
          walk_nrm
          refine anyT_takeT (i := 10) (v := .pointer (some ⟨w.heap.size, ia, none⟩)) rfl (by kernel_rfl) (by kernel_rfl) (by kernel_rfl) (by kernel_rfl) (fun _ _ _ h => h) (Or.inl ⟨by rfl, fun X hSw => by ((try dsimp only at hSw); go_simp)⟩) hT (fun _ => hS) ?_
          walk_nrm
          refine anyT_takeS (i := 11) (v := .int .u32 (ea : Int)) rfl rfl (by kernel_rfl) (by kernel_rfl) (by kernel_rfl) (by kernel_rfl) (by kernel_rfl) (fun _ _ _ h => h) (Or.inl ⟨by rfl, fun X hSw => by (obtain ⟨_, q1, q2, q3, q4⟩ := hSw; go_simp)⟩) hT hS ?_
          walk_nrm
          refine anyT_takeT (i := 12) (v := .pointer (some ⟨GP, 1, none⟩)) rfl (by kernel_rfl) (by kernel_rfl) (by kernel_rfl) (by kernel_rfl) (fun _ _ _ h => h) (Or.inl ⟨by rfl, fun X hSw => by ((try dsimp only at hSw); go_simp)⟩) hT (fun _ => hS) ?_
          walk_nrm
          refine anyT_takeT (i := 13) (v := .int .i64 (ib : Int)) rfl (by kernel_rfl) (by kernel_rfl) (by kernel_rfl) (by kernel_rfl) (fun _ _ _ h => h) (Or.inl ⟨by rfl, fun X hSw => by (obtain ⟨q1, q2, q3, q4⟩ := hSw; go_simp)⟩) hT (fun _ => hS) ?_
          walk_nrm
          refine anyT_takeT (i := 14) (v := .pointer (some ⟨w.heap.size, ib, none⟩)) rfl (by kernel_rfl) (by kernel_rfl) (by kernel_rfl) (by kernel_rfl) (fun _ _ _ h => h) (Or.inl ⟨by rfl, fun X hSw => by ((try dsimp only at hSw); go_simp)⟩) hT (fun _ => hS) ?_
          walk_nrm
          refine anyT_takeS (i := 15) (v := .int .u32 (eb : Int)) rfl rfl (by kernel_rfl) (by kernel_rfl) (by kernel_rfl) (by kernel_rfl) (by kernel_rfl) (fun _ _ _ h => h) (Or.inl ⟨by rfl, fun X hSw => by (obtain ⟨_, q1, q2, q3, q4⟩ := hSw; go_simp)⟩) hT hS ?_
          walk_nrm
          refine anyT_takeT (i := 16) (v := .pointer (some ⟨GP, 2, none⟩)) rfl (by kernel_rfl) (by kernel_rfl) (by kernel_rfl) (by kernel_rfl) (fun _ _ _ h => h) (Or.inl ⟨by rfl, fun X hSw => by ((try dsimp only at hSw); go_simp)⟩) hT (fun _ => hS) ?_
          walk_nrm
          refine anyT_takeT (i := 17) (v := .int .i64 (ic : Int)) rfl (by kernel_rfl) (by kernel_rfl) (by kernel_rfl) (by kernel_rfl) (fun _ _ _ h => h) (Or.inl ⟨by rfl, fun X hSw => by (obtain ⟨q1, q2, q3, q4⟩ := hSw; go_simp)⟩) hT (fun _ => hS) ?_
          walk_nrm
          refine anyT_takeT (i := 18) (v := .pointer (some ⟨w.heap.size, ic, none⟩)) rfl (by kernel_rfl) (by kernel_rfl) (by kernel_rfl) (by kernel_rfl) (fun _ _ _ h => h) (Or.inl ⟨by rfl, fun X hSw => by ((try dsimp only at hSw); go_simp)⟩) hT (fun _ => hS) ?_
          walk_nrm
          refine anyT_takeS (i := 19) (v := .int .u32 (ec : Int)) rfl rfl (by kernel_rfl) (by kernel_rfl) (by kernel_rfl) (by kernel_rfl) (by kernel_rfl) (fun _ _ _ h => h) (Or.inl ⟨by rfl, fun X hSw => by (obtain ⟨_, q1, q2, q3, q4⟩ := hSw; go_simp)⟩) hT hS ?_
          walk_nrm
          refine anyT_takeT (i := 20) (v := .pointer (some ⟨GP, 3, none⟩)) rfl (by kernel_rfl) (by kernel_rfl) (by kernel_rfl) (by kernel_rfl) (fun _ _ _ h => h) (Or.inl ⟨by rfl, fun X hSw => by ((try dsimp only at hSw); go_simp)⟩) hT (fun _ => hS) ?_
          walk_nrm
          refine anyT_takeT (i := 21) (v := .int .i64 (id : Int)) rfl (by kernel_rfl) (by kernel_rfl) (by kernel_rfl) (by kernel_rfl) (fun _ _ _ h => h) (Or.inl ⟨by rfl, fun X hSw => by (obtain ⟨q1, q2, q3, q4⟩ := hSw; go_simp)⟩) hT (fun _ => hS) ?_
          walk_nrm
          refine anyT_takeT (i := 22) (v := .pointer (some ⟨w.heap.size, id, none⟩)) rfl (by kernel_rfl) (by kernel_rfl) (by kernel_rfl) (by kernel_rfl) (fun _ _ _ h => h) (Or.inl ⟨by rfl, fun X hSw => by ((try dsimp only at hSw); go_simp)⟩) hT (fun _ => hS) ?_
          walk_nrm
          refine anyT_takeS (i := 23) (v := .int .u32 (ed : Int)) rfl rfl (by kernel_rfl) (by kernel_rfl) (by kernel_rfl) (by kernel_rfl) (by kernel_rfl) (fun _ _ _ h => h) (Or.inl ⟨by rfl, fun X hSw => by (obtain ⟨_, q1, q2, q3, q4⟩ := hSw; go_simp)⟩) hT hS ?_
          walk_nrm
          refine anyT_one (i := 24) (by kernel_rfl) rfl (fun K hK => ?_)
          go_simp
          refine (CQ _).mono ?_
          rintro e w9 ⟨rfl, rfl⟩
          go_wp2_with (fail)
          refine hK.out _ _ hT (fun _ => hS) ?_
          clear hK K
          refine anyT_takeT (i := 25) (v := .tuple #[.int .u32 (qa : Int), .int .u32 (qb : Int), .int .u32 (qc : Int), .int .u32 (qd : Int)]) rfl (by kernel_rfl) (by kernel_rfl) (by kernel_rfl) (by kernel_rfl) (fun _ _ _ h => h) (Or.inl ⟨by rfl, fun X hSw => by ((try dsimp only at hSw); go_simp)⟩) hT (fun _ => hS) ?_
          walk_nrm
          refine anyT_takeT (i := 26) (v := .int .u32 (qa : Int)) rfl (by kernel_rfl) (by kernel_rfl) (by kernel_rfl) (by kernel_rfl) (fun _ _ _ h => h) (Or.inl ⟨by rfl, fun X hSw => by ((try dsimp only at hSw); go_simp)⟩) hT (fun _ => hS) ?_
          walk_nrm
          refine anyT_takeT (i := 27) (v := .int .u32 (qb : Int)) rfl (by kernel_rfl) (by kernel_rfl) (by kernel_rfl) (by kernel_rfl) (fun _ _ _ h => h) (Or.inl ⟨by rfl, fun X hSw => by ((try dsimp only at hSw); go_simp)⟩) hT (fun _ => hS) ?_
          walk_nrm
          refine anyT_takeT (i := 28) (v := .int .u32 (qc : Int)) rfl (by kernel_rfl) (by kernel_rfl) (by kernel_rfl) (by kernel_rfl) (fun _ _ _ h => h) (Or.inl ⟨by rfl, fun X hSw => by ((try dsimp only at hSw); go_simp)⟩) hT (fun _ => hS) ?_
          walk_nrm
          refine anyT_takeT (i := 29) (v := .int .u32 (qd : Int)) rfl (by kernel_rfl) (by kernel_rfl) (by kernel_rfl) (by kernel_rfl) (fun _ _ _ h => h) (Or.inl ⟨by rfl, fun X hSw => by ((try dsimp only at hSw); go_simp)⟩) hT (fun _ => hS) ?_
          walk_nrm
          refine anyT_takeT (i := 30) (v := .pointer (some ⟨w.heap.size, ia, none⟩)) rfl (by kernel_rfl) (by kernel_rfl) (by kernel_rfl) (by kernel_rfl) (fun _ _ _ h => h) (Or.inl ⟨by rfl, fun X hSw => by ((try dsimp only at hSw); go_simp)⟩) hT (fun _ => hS) ?_
          walk_nrm
          have c0 := h2.cell ia p0
          have f0 := h2.frozen ia
          have st0 := h2.set ia qa
          refine anyT_one (i := 31) (by kernel_rfl) rfl (fun K hK => ?_)
          go_simp
          have hT1 := gT _ _ st0.2 hGl hT
          have hGl1 := Nat.lt_of_lt_of_le hGl st0.2.size
          refine hK.out _ _ hT1 (fun h => by cases h) ?_
          clear hK K c0 f0
          have h2_1 := st0.1
          refine anyT_takeT (i := 32) (v := .pointer (some ⟨w.heap.size, ib, none⟩)) rfl (by kernel_rfl) (by kernel_rfl) (by kernel_rfl) (by kernel_rfl) (fun _ _ _ h => h) (Or.inl ⟨by rfl, fun X hSw => by ((try dsimp only at hSw); go_simp)⟩) hT1 (fun h => by cases h) ?_
          walk_nrm
          have c1 := h2_1.cell ib p1
          have f1 := h2_1.frozen ib
          have st1 := h2_1.set ib qb
          refine anyT_one (i := 33) (by kernel_rfl) rfl (fun K hK => ?_)
          go_simp
          have hT2 := gT _ _ st1.2 hGl1 hT1
          have hGl2 := Nat.lt_of_lt_of_le hGl1 st1.2.size
          refine hK.out _ _ hT2 (fun h => by cases h) ?_
          clear hK K c1 f1
          have h2_2 := st1.1
          refine anyT_takeT (i := 34) (v := .pointer (some ⟨w.heap.size, ic, none⟩)) rfl (by kernel_rfl) (by kernel_rfl) (by kernel_rfl) (by kernel_rfl) (fun _ _ _ h => h) (Or.inl ⟨by rfl, fun X hSw => by ((try dsimp only at hSw); go_simp)⟩) hT2 (fun h => by cases h) ?_
          walk_nrm
          have c2 := h2_2.cell ic p2
          have f2 := h2_2.frozen ic
          have st2 := h2_2.set ic qc
          refine anyT_one (i := 35) (by kernel_rfl) rfl (fun K hK => ?_)
          go_simp
          have hT3 := gT _ _ st2.2 hGl2 hT2
          have hGl3 := Nat.lt_of_lt_of_le hGl2 st2.2.size
          refine hK.out _ _ hT3 (fun h => by cases h) ?_
          clear hK K c2 f2
          have h2_3 := st2.1
          refine anyT_takeT (i := 36) (v := .pointer (some ⟨w.heap.size, id, none⟩)) rfl (by kernel_rfl) (by kernel_rfl) (by kernel_rfl) (by kernel_rfl) (fun _ _ _ h => h) (Or.inl ⟨by rfl, fun X hSw => by ((try dsimp only at hSw); go_simp)⟩) hT3 (fun h => by cases h) ?_
          walk_nrm
          have c3 := h2_3.cell id p3
          have f3 := h2_3.frozen id
          have st3 := h2_3.set id qd
          refine anyT_one (i := 37) (by kernel_rfl) rfl (fun K hK => ?_)
          go_simp
          have hT4 := gT _ _ st3.2 hGl3 hT3
          have hGl4 := Nat.lt_of_lt_of_le hGl3 st3.2.size
          refine hK.out _ _ hT4 (fun h => by cases h) ?_
          clear hK K c3 f3
          have h2_4 := st3.1
          refine anyT_done (by kernel_rfl) ?_ _
          refine NoPanic.normal ?_
          rw [HE] at h2_4
          have G4 := grown_trans st0.2 (grown_trans st1.2 (grown_trans st2.2 st3.2))
          have h3' := h3.kept G4 (Nat.ne_of_gt hge)
          have bel' := belX.grown G4 belX.size (fun k hk => by cases hk; exact Nat.le_refl _)
          clear st0 st1 st2 st3 h2 h2_1 h2_2 h2_3 hT hT1 hT2 hT3 hT4 hS h3 belX G4 gT
          go_wp2_with (fail)
          go_roundw
          case rel => exact ⟨j + 1, by omega, by go_num, h2_4, h3', bel'⟩
          case measure => simp [intOf]; omega
        · have hj8 : j = 8 := by omega
          have hnj : ¬ (j : Int) < 8 := by omega
          rw [hj8, HTk.out] at h2
          clear hj8
          go_wp2_with (fail)
          go_roundw
          case rel => exact ⟨k + 1, by omega, by go_num, h2, h3, bel⟩
          case measure => simp [intOf]; omega
    · have hk10 : k = 10 := by omega
      have hnl : ¬ (k : Int) < 10 := by omega
      rw [hk10] at h2
      clear hk10
      have hLT := HL.out 10
      clear HL HT HP HX hszP
      have HD : ∀ i, i < 16 → (sumS (tenS F 10) F).getD i 0 = ((((tenS F 10).getD i 0 + F.getD i 0) % 4294967296 : Nat) : Int) := fun i hi => sumS_getD _ _ i hi
      have lD := sumS_length (tenS F 10) F
      obtain ⟨D, hD⟩ : ∃ D, D = sumS (tenS F 10) F := ⟨_, rfl⟩
      rw [← hD] at HD lD
      replace hD : Hid (D = sumS (tenS F 10) F) := hD
      obtain ⟨X, hX⟩ : ∃ X, X = tenS F 10 := ⟨_, rfl⟩
      rw [← hX] at h2 hLT HD
      clear hX
      replace HD : Hid (∀ i, i < 16 → D.getD i 0 = (((X.getD i 0 + F.getD i 0) % 4294967296 : Nat) : Int)) := HD
      obtain ⟨i0, hi, hz0, hz1, hz2⟩ := info_parts infoInt
      have hsw := bel.size
      have hl2 := h2.lt.2
      have hl3 := h3.lt.2
      go_wp2_with (at_make; refine wpList_make_full _ rfl _ _ 52 rfl w.heap.size 3 i0 (.int .i64 0) 1 Tryz.underlying52 hi hz0 hz1 _ _ _ _ 16 rfl rfl rfl rfl (by rw [hz2]; omega) (by unfold maxLen; omega) hsw ?_)
      intro w1 hown hgrow
      have bel1 : Below w.heap.size w w1 := bel.grown hgrow bel.size (fun _ h => by cases h)
      have b1 : Below wr.heap.size wr w1 := (Below.refl _ _).grown hgrow (Nat.le_refl _) (fun _ h => by cases h)
      replace h2 := h2.below b1
      replace h3 := h3.below b1
      obtain ⟨gm, hgm⟩ : ∃ gm, gm = wr.heap.size := ⟨_, rfl⟩
      rw [← hgm] at hown hl2 hl3 ⊢
      have hown0 : w1.ownsRow w.heap.size 3 1 (.slice (some ⟨gm, 0, none⟩) 16 16) 16 ((D.take 0 ++ List.replicate (16 - 0) 0).map (Value.int .i64)) := by
        rw [← fill_startI D 16]
        exact hown
      have hne2 : w.heap.size ≠ gm := Nat.ne_of_lt hl2
      have hne3 : GF ≠ gm := Nat.ne_of_lt hl3
      have HG : Hid (w.heap.size ≤ gm ∧ StrIs w1 w.heap.size w.heap.size X ∧ StrIs w1 w.heap.size GF F ∧ Below w.heap.size w w1) := ⟨Nat.le_of_lt hl2, h2, h3, bel1⟩
      clear hown hgrow hgm bel bel1 b1 hl2 hl3 hz4 h2 h3 hsw
      go_wp2_with (fail)
      go_loopw [57] (fun i wr => ∃ k : Nat, k ≤ 16 ∧ i = .int .i64 k ∧ wr.ownsRow w.heap.size 3 1 (.slice (some ⟨gm, 0, none⟩) 16 16) 16 ((D.take k ++ List.replicate (16 - k) 0).map (Value.int .i64)) ∧ w1.grownBy wr (some gm))
        (fun i _ => 16 - (intOf i).toNat)
      case atStart => exact ⟨0, by omega, rfl, hown0, World.grownBy.refl _ _⟩
      case round =>
        clear hown0
        obtain ⟨k, hk, rfl, hown, hgr⟩ := hrel
        by_cases hlt6 : k < 16
        · have hlt6' : (k : Int) < 16 := by omega
          have cs := (HG.out.2.1.kept hgr hne2).cell k hlt6
          have cf := (HG.out.2.2.1.kept hgr hne3).cell k hlt6
          have la := hLT.get k
          have lb := hS.get k
          have hTk := HD.out k hlt6
          have hfr := hown.frozenAt k
          have hold : wr.cell? ⟨gm, k, none⟩ = some (.int .i64 0) := by rw [hown.cellAt k (by omega), fill_oldI _ _ _ hlt6 lD]
          generalize X.getD k 0 = a at cs la hTk
          generalize F.getD k 0 = b at cf lb hTk
          obtain ⟨v, hv⟩ : ∃ v : Nat, v = (a + b) % 4294967296 := ⟨_, rfl⟩
          have mv : ((a : Int) + (b : Int)) % 4294967296 = (v : Int) := by omega
          have wv : IntKind.u32.wrap ((a : Int) + (b : Int)) = (v : Int) := by rw [IntKind.wrap_u32]; exact mv
          have vv : IntKind.i64.wrap (v : Int) = (v : Int) := by rw [IntKind.wrap_i64]; omega
          have st := hown.stored k (.int .i64 (v : Int))
          rw [fill_stepI D 16 k _ (by rw [hTk, hv]) hlt6 lD] at st
          have hgr' := grown_trans hgr st.2
          have st' := st.1
          clear st hv hTk hown hgr la lb
          go_wp2_with (fail)
          go_region
          all_goals
            go_wp2
            go_roundw
            case rel => exact ⟨k + 1, by omega, by go_num, st', ⟨hgr'.os, hgr'.tape, hgr'.output, hgr'.size, hgr'.block⟩⟩
            case measure => simp [intOf]; omega
        · have hnl6 : ¬ (k : Int) < 16 := by omega
          have hfin : D.take k ++ List.replicate (16 - k) 0 = D := by rw [show k = 16 by omega]; exact fill_end D 16 lD
          rw [hfin] at hown
          clear hfin
          have hin := owns_inI hown
          have bel := HG.out.2.2.2.grown hgr HG.out.2.2.2.size (fun k hk => by cases hk; exact HG.out.1)
          have CW := implWordBytes_any (some ⟨gm, 0, none⟩) 16 16 false D wr (by omega) lD hin
          clear hown hin HG hgr
          go_wp2_with (fail)
          refine CW.mono ?_
          rintro e w9 ⟨p9, c9, rfl, r9, b9⟩
          rw [hD.out] at r9
          go_wp2_with (fail)
          go_ret
          exact ⟨_, _, rfl, ⟨owns_mono r9.1 bel.size, r9.2⟩, below_on bel b9⟩
theorem byteGet {xs : List Int} (hb : ∀ x ∈ xs, 0 ≤ x ∧ x < 256) (i : Nat) : (xs.getD i 0).toNat < 256 := by
  rw [List.getD_eq_getElem?_getD]
  cases hk : xs[i]? with
  | none => decide
  | some x => have := hb x (List.mem_of_getElem? hk); simp only [Option.getD_some]; omega
theorem four_low {a b c d : Nat} (ha : a < 256) (hb : b < 256) (hc : c < 256) (hd : d < 256) : four a b c d < 4294967296 := by
  unfold four
  omega
theorem wordsL_low {xs : List Int} (hb : ∀ x ∈ xs, 0 ≤ x ∧ x < 256) (k : Nat) : ∀ x ∈ wordsL false xs k, 0 ≤ x ∧ x < 4294967296 := by
  intro x hx
  simp only [wordsL, List.mem_map] at hx
  obtain ⟨i, _, rfl⟩ := hx
  have := four_low (byteGet hb (4 * i + 3)) (byteGet hb (4 * i + 2)) (byteGet hb (4 * i + 1)) (byteGet hb (4 * i + 0))
  simp only [wordAt, Bool.false_eq_true, if_false]
  omega
theorem places_below {w w' : World} (h : PlacesIs w) (hb : Below w.heap.size w w') : PlacesIs w' := by
  have hgp : 1 < w.heap.size := World.block_lt_of_cell? w ⟨1, 0 + 0, none⟩ (h 0 _ rfl)
  exact fun j v hv => (hb.cell (p := ⟨1, 0 + j, none⟩) hgp).trans (h j v hv)
set_option maxHeartbeats 4000000 in
theorem implBlk_no (p q : Option Addr) (n m c d : Nat) (count : Int) (T : List Nat) (ok : Bool) (w : World) (hT : T.length = 16) (hno : ok = false ∨ count < 0 ∨ 4294967295 < count)
    (CN : Calls Tryz.prog 107 #[.slice p n c, .slice q m d] w fun e w' => e = .returned (.tuple #[.agg (strL T).toArray, .bool ok]) ∧ Below w.heap.size w w') :
    Calls Tryz.prog 110 #[.slice p n c, .int .i64 count, .slice q m d] w fun e w' => e = .returned (.slice none 0 0) ∧ Below w.heap.size w w' := by
  have hz := (zero_of_info infoStr).1
  have hsz0 := (zero_of_info infoStr).2
  have hsC : (strL T).toArray.size = 16 := by simp [strL_length, hT]
  have hone : ∀ v ∈ strL T, v.oneCell' = true := strL_one _
  have hsz2 : (Tryz.prog.info? 131).map (·.size) = some (strL T).toArray.size := by rw [hsC]; exact hsz0
  have HM : Hid (∀ X : World, (X.alloc (.cells (strL zero16).toArray 131)).there X.heap.size 0 (strL T).toArray.size ∧ Below X.heap.size X ((X.alloc (.cells (strL zero16).toArray 131)).setCells X.heap.size 0 (strL T))) := fun X => by
    have m1 := StrIs.made X X.heap.size zero16 rfl (Nat.le_refl _)
    rw [hsC]
    have bb : Below X.heap.size X (X.alloc (.cells (strL zero16).toArray 131)) := (Below.refl _ _).alloc (Nat.le_refl _) _
    exact ⟨m1.there, bb.grown (m1.put hT).2 bb.size (fun k hk => by cases hk; exact Nat.le_refl _)⟩
  obtain ⟨Z, hZ⟩ : ∃ Z, Z = (strL zero16).toArray := ⟨_, rfl⟩
  rw [← hZ] at hz
  simp only [← hZ] at HM
  clear hZ
  obtain ⟨Cs, hCs⟩ : ∃ Cs, Cs = strL T := ⟨_, rfl⟩
  rw [← hCs] at hsz2 hone CN
  simp only [← hCs] at HM
  clear hCs hsC hT
  go_enter Tryz.func110, Tryz.ntmps110
  go_wp2_with (fail)
  refine CN.mono ?_
  rintro e w1 ⟨rfl, b1⟩
  have hth := (HM.out w1).1
  have hbb := (HM.out w1).2
  clear HM CN
  rcases hno with rfl | h | h
  · go_wp2_with (refine wpList_store_mid rfl 131 _ _ rfl w1.heap.size 0 Cs.toArray rfl rfl hth hsz2 (all_oneCell_toArray hone) ?_)
    go_ret
    exact ⟨rfl, below_on b1 hbb⟩
  · cases ok <;> (go_wp2_with (refine wpList_store_mid rfl 131 _ _ rfl w1.heap.size 0 Cs.toArray rfl rfl hth hsz2 (all_oneCell_toArray hone) ?_); go_ret; exact ⟨rfl, below_on b1 hbb⟩)
  · have h' : ¬ count < 0 := by omega
    cases ok <;> (go_wp2_with (refine wpList_store_mid rfl 131 _ _ rfl w1.heap.size 0 Cs.toArray rfl rfl hth hsz2 (all_oneCell_toArray hone) ?_); go_ret; exact ⟨rfl, below_on b1 hbb⟩)
set_option maxHeartbeats 4000000 in
theorem implBlk_yes (p q : Option Addr) (c d : Nat) (count : Int) (ks ns : List Int) (w : World) (hc : 32 ≤ c) (hd : 12 ≤ d) (hx : ks.length = 32) (hy : ns.length = 12) (h : BytesIn w p 32 ks) (h' : BytesIn w q 12 ns) (hb1 : ∀ x ∈ ks, 0 ≤ x ∧ x < 256) (hb2 : ∀ x ∈ ns, 0 ≤ x ∧ x < 256) (hP : PlacesIs w) (h0 : 0 ≤ count) (h1 : count ≤ 4294967295) :
    Calls Tryz.prog 110 #[.slice p 32 c, .int .i64 count, .slice q 12 d] w fun e w' => ∃ p' c', e = .returned (.slice p' 64 c') ∧ Own 5 w' w.heap.size w'.heap.size (.slice p' 64 c') 64 (blkB ks count ns) ∧ Below w.heap.size w w' := by
  have CN := newStream_yes p q c d ks ns w hc hd hx hy h h' hb1 hb2
  have hT := firstN_length ks 0 ns
  have eF := firstN_set ks ns count
  obtain ⟨e1, e2⟩ := firstL_cast ks ns count ⟨h0, h1⟩ (wordsL_low hb1 8) (wordsL_low hb2 3)
  have HB : Hid (blkB ks count ns = bytesL false (sumS (tenS (firstN ks count ns) 10) (firstN ks count ns))) := blkB_cast e2 (firstN_length _ _ _) e1
  clear e1
  generalize firstN ks 0 ns = T at CN hT eF
  generalize firstN ks count ns = F at eF e2 HB
  have n0 : ¬ count < 0 := by omega
  have n1 : ¬ 4294967295 < count := by omega
  have hz := (zero_of_info infoStr).1
  have hsz0 := (zero_of_info infoStr).2
  have hsC : (strL T).toArray.size = 16 := by simp [strL_length, hT]
  have hone : ∀ v ∈ strL T, v.oneCell' = true := strL_one _
  have hsz : (Tryz.prog.info? 131).map (·.size) = some (strL T).length := by rw [strL_length, hT]; exact hsz0
  have hsz2 : (Tryz.prog.info? 131).map (·.size) = some (strL T).toArray.size := by rw [hsC]; exact hsz0
  have HM : Hid (∀ X : World, (X.alloc (.cells (strL zero16).toArray 131)).there X.heap.size 0 (strL T).toArray.size ∧ Below X.heap.size X ((X.alloc (.cells (strL zero16).toArray 131)).setCells X.heap.size 0 (strL T)) ∧ ((X.alloc (.cells (strL zero16).toArray 131)).setCells X.heap.size 0 (strL T)).rangeAt X.heap.size 0 (strL T)) := fun X => by
    have m1 := StrIs.made X X.heap.size zero16 rfl (Nat.le_refl _)
    rw [hsC]
    have bb : Below X.heap.size X (X.alloc (.cells (strL zero16).toArray 131)) := (Below.refl _ _).alloc (Nat.le_refl _) _
    exact ⟨m1.there, bb.grown (m1.put hT).2 bb.size (fun k hk => by cases hk; exact Nat.le_refl _), (m1.put hT).1.range⟩
  have CB := fun X hX => block_any T F count X hT eF.symm e2 hX
  obtain ⟨Z, hZ⟩ : ∃ Z, Z = (strL zero16).toArray := ⟨_, rfl⟩
  rw [← hZ] at hz
  simp only [← hZ] at HM
  clear hZ
  obtain ⟨Cs, hCs⟩ : ∃ Cs, Cs = strL T := ⟨_, rfl⟩
  rw [← hCs] at hsz hsz2 hone CN
  simp only [← hCs] at HM CB
  clear hCs hsC hT eF e2
  obtain ⟨Bs, hBs⟩ : ∃ Bs, Bs = bytesL false (sumS (tenS F 10) F) := ⟨_, rfl⟩
  simp only [← hBs] at CB HB
  rw [HB.out]
  clear hBs HB
  go_enter Tryz.func110, Tryz.ntmps110
  go_wp2_with (fail)
  refine CN.mono ?_
  rintro e w1 ⟨rfl, b1⟩
  obtain ⟨hth, hbb, hra⟩ := HM.out w1
  have bel := below_on b1 hbb
  have CB' := CB _ (places_below hP bel)
  clear HM CN CB
  replace CB' : Hid (Calls Tryz.prog _ _ _ _) := CB'
  go_wp2_with (first | (refine wpList_store_mid rfl 131 _ _ rfl w1.heap.size 0 Cs.toArray rfl rfl hth hsz2 (all_oneCell_toArray hone) ?_) | (refine wpList_load_mid rfl 131 _ rfl w1.heap.size 0 rfl Cs _ hra Tryz.underlying131 rfl hsz ?_))
  refine CB'.out.mono ?_
  rintro e w2 ⟨p2, c2, rfl, r2, b2⟩
  go_wp2_with (fail)
  go_ret
  exact ⟨_, _, rfl, ⟨owns_mono r2.1 bel.size, r2.2⟩, below_on bel b2⟩
theorem implBlk_any (p q : Option Addr) (n m c d : Nat) (count : Int) (ks ns : List Int) (w : World) (hx : ks.length = n) (hy : ns.length = m) (h : BytesIn w p n ks) (h' : BytesIn w q m ns) (hb1 : ∀ x ∈ ks, 0 ≤ x ∧ x < 256) (hb2 : ∀ x ∈ ns, 0 ≤ x ∧ x < 256) (hc : n ≤ c) (hd : m ≤ d) (hP : PlacesIs w) :
    Calls Tryz.prog 110 #[.slice p n c, .int .i64 count, .slice q m d] w fun e w' => ∃ p' c', e = .returned (.slice p' (blkN n m count) c') ∧ Own 5 w' w.heap.size w'.heap.size (.slice p' (blkN n m count) c') (blkN n m count) (blkL ks count ns) ∧ Below w.heap.size w w' := by
  unfold blkN blkL
  rw [hx, hy]
  by_cases hok : blkOk n m count
  · rw [if_pos hok, if_pos hok]
    obtain ⟨rfl, rfl, h0, h1⟩ := hok
    exact implBlk_yes p q c d count ks ns w hc hd hx hy h h' hb1 hb2 hP h0 h1
  · rw [if_neg hok, if_neg hok]
    have key : Calls Tryz.prog 110 #[.slice p n c, .int .i64 count, .slice q m d] w fun e w' => e = .returned (.slice none 0 0) ∧ Below w.heap.size w w' := by
      by_cases hs : n = 32 ∧ m = 12
      · obtain ⟨rfl, rfl⟩ := hs
        refine implBlk_no p q 32 12 c d count (firstN ks 0 ns) true w (firstN_length _ _ _) (.inr ?_) (newStream_yes p q c d ks ns w hc hd hx hy h h' hb1 hb2)
        unfold blkOk at hok
        omega
      · exact implBlk_no p q n m c d count zero16 false w rfl (.inl rfl) (newStream_no p q n m c d w hs)
    refine key.mono ?_
    rintro e w' ⟨rfl, b⟩
    exact ⟨none, 0, rfl, .of ⟨rfl, .inl ⟨rfl, rfl⟩⟩, b⟩
end Go.Proofs.YtnpffnhiefgglaaGreatDoor
