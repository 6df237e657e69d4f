/-
  The program's numbers of a tag: what takeRest leaves of them by p, and their bytes. Condition: small parts.
-/
import Derived.Test.YthgnekdhldjjmabImplTagC
namespace Go.Proofs.Ythgnekdhldjjmab
open Go.RowKit

theorem u64L_one (l : List Nat) : ∀ v ∈ u64L l, v.oneCell' = true := by
  intro v hv
  simp only [u64L, List.mem_map] at hv
  obtain ⟨n, _, rfl⟩ := hv
  rfl
theorem infoNum : (Try.prog.info? 38).map (fun i => (i.zero, i.size)) = some (some (.agg (u64L zero5).toArray), 5) := by kernel_rfl
theorem NumIs.range {w : World} {lo g : Nat} {S : List Nat} (h : NumIs w lo g S) : w.rangeAt g 0 (u64L S) := by
  intro j v hv
  have hj : j < 5 := by have := (List.getElem?_eq_some_iff.1 hv).1; rw [u64L_length, h.1] at this; exact this
  rw [Nat.zero_add, h.2.cellAt j (by omega), hv]
theorem NumIs.there {w : World} {lo g : Nat} {S : List Nat} (h : NumIs w lo g S) : w.there g 0 5 := by
  intro j hj
  rw [Nat.zero_add, h.cell j hj]
  exact ⟨rfl, h.frozen j⟩

set_option maxRecDepth 100000 in
set_option maxHeartbeats 4000000 in
theorem takeRest_any (lo g : Nat) (S : List Nat) (w : World) (hS : lessP 67108864 S) (h : NumIs w lo g S) :
    Calls Try.prog 19 #[.pointer (some ⟨g, 0, none⟩)] w fun e w' => e = .returned (.tuple #[]) ∧ (∃ T, NumIs w' lo g T ∧ lessP 67108864 T ∧ val5 T = val5 S % tagP) ∧ w.grownBy w' (some g) := by
  have c0 := h.cell 0 (by decide)
  have c1 := h.cell 1 (by decide)
  have c2 := h.cell 2 (by decide)
  have c3 := h.cell 3 (by decide)
  have c4 := h.cell 4 (by decide)
  have hVl := val5_lt hS
  have hs0 := hS.2 0
  obtain ⟨a0, a1, a2, a3, a4, hSe⟩ := five_of hS.1
  have f0 : S.getD 0 0 = a0 := by rw [hSe]; rfl
  have f1 : S.getD 1 0 = a1 := by rw [hSe]; rfl
  have f2 : S.getD 2 0 = a2 := by rw [hSe]; rfl
  have f3 : S.getD 3 0 = a3 := by rw [hSe]; rfl
  have f4 : S.getD 4 0 = a4 := by rw [hSe]; rfl
  obtain ⟨u, hu⟩ : ∃ u, u = a0 + 5 := ⟨_, rfl⟩
  have HV : val5 [u, a1, a2, a3, a4] = val5 S + 5 := by
    have k := val5_set (S := S) (k := 0) 5 hS.1 (by decide)
    rw [f0, ← hu, Nat.pow_zero, Nat.mul_one, hSe] at k
    rw [hSe]
    exact k
  have hL : lessP 9223372036854775808 [u, a1, a2, a3, a4] := by
    have k := lessP_set (M' := 9223372036854775808) hS 0 u (by decide) (by omega)
    rw [hSe] at k
    exact k
  obtain ⟨wa, hwa⟩ : ∃ wa, wa = w.alloc (.cells #[.int .u64 (u : Int), .int .u64 (a1 : Int), .int .u64 (a2 : Int), .int .u64 (a3 : Int), .int .u64 (a4 : Int)] 38) := ⟨_, rfl⟩
  have bb : Below w.heap.size w wa := by rw [hwa]; exact (Below.refl _ _).alloc (Nat.le_refl _) _
  have nc : NumIs wa w.heap.size w.heap.size [u, a1, a2, a3, a4] := by rw [hwa]; exact NumIs.made w u a1 a2 a3 a4
  have hlg := h.lt.2
  have hlen := hS.1
  rw [f0] at c0 hs0
  rw [f1] at c1
  rw [f2] at c2
  rw [f3] at c3
  rw [f4] at c4
  have eu : (a0 : Int) + 5 = (u : Int) := by omega
  have u1 : (u : Int) < 18446744073709551616 := by omega
  have CC := carry_any _ _ _ _ hL nc
  rw [HV] at CC
  have hov : (val5 S + 5) / 67108864 ^ 5 < 274877906944 := by rw [← HV]; exact ovP_lt hL 5
  have HY : Hid (0 < (val5 S + 5) / 67108864 ^ 5 → (val5 S + 5) % 67108864 ^ 5 = val5 S % tagP) := fun k => rest_yes hVl k
  have HN : Hid (¬ 0 < (val5 S + 5) / 67108864 ^ 5 → val5 S % tagP = val5 S) := fun k => rest_no k
  clear hL HV nc f0 f1 f2 f3 f4 hSe hu
  generalize (val5 S + 5) / 67108864 ^ 5 = R at CC hov HY HN
  have HD := val5_digL (val5 S + 5)
  have HDl := digL_less (val5 S + 5)
  generalize digL (val5 S + 5) = D at CC HD HDl
  have hsz0 := (zero_of_info infoNum).2
  have hszC : (Try.prog.info? 38).map (·.size) = some (u64L D).length := by rw [u64L_length, HDl.1]; exact hsz0
  have hszC2 : (Try.prog.info? 38).map (·.size) = some (u64L D).toArray.size := by simpa using hszC
  have hone := u64L_one D
  have hsC : (u64L D).toArray.size = 5 := by simp [u64L_length, HDl.1]
  go_enter Try.func19, Try.ntmps19
  go_wp2_with (fail)
  rw [← hwa]
  refine CC.mono ?_
  rintro e w3 ⟨rfl, n3, g3⟩
  have b3 := bb.grown g3 bb.size (fun k hk => by cases hk; exact Nat.le_refl _)
  have hg3 : w.grownBy w3 (some g) := tag_grown b3
  have h3 := h.below b3
  clear CC hwa bb g3 b3 c0 c1 c2 c3 c4 eu u1
  by_cases hR : 0 < R
  · have hR' : (0 : Int) < (R : Int) := by omega
    have hra := n3.range
    have hth : w3.there g 0 (u64L D).toArray.size := by rw [hsC]; exact h3.there
    have hp := h3.put HDl.1
    have hq := HY.out hR
    rw [hq] at HD
    have hg4 := grown_trans hg3 hp.2
    have n4 := hp.1
    replace HD : Hid (val5 D = val5 S % tagP) := HD
    obtain ⟨Cs, hCs⟩ : ∃ Cs, Cs = u64L D := ⟨_, rfl⟩
    rw [← hCs] at hra hszC hszC2 hth hg4 n4 hone
    clear hp n3 h3 hq HY HN h hCs hsC
    go_wp2_with (first | (refine wpList_load_mid rfl 38 _ rfl w.heap.size 0 rfl Cs _ hra Try.underlying38 rfl hszC ?_) | (refine wpList_store_mid rfl 38 _ _ rfl g 0 Cs.toArray rfl rfl hth hszC2 (all_oneCell_toArray hone) ?_))
    go_end0
    exact ⟨rfl, ⟨D, n4, HDl, HD⟩, hg4⟩
  · obtain rfl : R = 0 := by omega
    have hq := HN.out (by omega)
    clear HY HN n3
    go_wp2
    go_end0
    exact ⟨rfl, ⟨S, h3, hS, hq.symm⟩, hg3⟩

theorem shr_letter (x t : Nat) (s : Nat) (h : x / 2 ^ s = t) : (x : Int) / 2 ^ s = (t : Int) := by
  rw [← h]
  simp

end Go.Proofs.Ythgnekdhldjjmab
