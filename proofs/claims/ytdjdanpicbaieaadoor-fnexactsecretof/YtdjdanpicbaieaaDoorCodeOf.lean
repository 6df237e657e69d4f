/-
  What the program's code.of answers of a code by a key of at most 64 bytes: the hash by both marks of the key. Conditions: at most 3936 bytes, bytes all; the table of the rounds' numbers is as its text says.
-/
import Derived.Test.YtdjdanpicbaieaaDoorPadBehind
namespace Go.Proofs.YtdjdanpicbaieaaDoor
open Go.RowKit
set_option maxRecDepth 100000

/-- The words behind a block. -/
def stateN (L : List Int) : List Nat := blockN (wsOf L) startN
def codeC (k : List Int) : List Value := hashC (stateN (markL k 54)) (markL k 54) (spreadN (wsOf (markL k 54))) ++ hashC (stateN (markL k 92)) (markL k 92) (spreadN (wsOf (markL k 92)))
theorem codeC_length {k : List Int} (h : k.length ≤ 64) : (codeC k).length = 272 := by
  rw [codeC, List.length_append, hashC_length (S := stateN _) (blockN_length _ _) (markL_length h _) (spreadN_length (wsOf_length _)), hashC_length (S := stateN _) (blockN_length _ _) (markL_length h _) (spreadN_length (wsOf_length _))]
theorem infoCode : (Tryd.prog.info? 85).map (fun i => (i.zero, i.size)) = some (some (.agg (hashC (List.replicate 8 0) zeroL zero64 ++ hashC (List.replicate 8 0) zeroL zero64).toArray), 272) := by kernel_rfl
theorem codeC_one (k : List Int) : ∀ v ∈ codeC k, v.oneCell' = true := by
  intro v hv
  rcases List.mem_append.1 hv with h | h
  · exact hashC_one _ _ _ v h
  · exact hashC_one _ _ _ v h

section
variable {ty : Nat} {w : World} {lo g : Nat} {S S' : List Nat} {L L' : List Int} {W W' : List Nat}
/-- Two hashes side by side: the first one, and the second one, of the same block. -/
theorem code_first (h1 : S.length = 8) (h2 : L.length = 64) (h3 : W.length = 64) (h : w.ownsRow lo ty 1 (.slice (some ⟨g, 0, none⟩) 272 272) 272 (hashC S L W ++ hashC S' L' W')) : HashIn ty 272 0 [] (hashC S' L' W') w lo g S L W :=
  ⟨h1, h2, h3, rfl, h⟩
theorem code_second (h1 : S.length = 8) (h2 : L.length = 64) (h3 : W.length = 64) (k1 : S'.length = 8) (k2 : L'.length = 64) (k3 : W'.length = 64) (h : w.ownsRow lo ty 1 (.slice (some ⟨g, 0, none⟩) 272 272) 272 (hashC S L W ++ hashC S' L' W')) : HashIn ty 272 136 (hashC S L W) [] w lo g S' L' W' :=
  ⟨k1, k2, k3, hashC_length h1 h2 h3, by rw [List.append_nil]; exact h⟩
theorem HashIn.rowFirst (h : HashIn ty 272 0 [] (hashC S' L' W') w lo g S L W) : w.ownsRow lo ty 1 (.slice (some ⟨g, 0, none⟩) 272 272) 272 (hashC S L W ++ hashC S' L' W') := h.2.2.2.2
theorem HashIn.rowSecond (h : HashIn ty 272 136 (hashC S L W) [] w lo g S' L' W') : w.ownsRow lo ty 1 (.slice (some ⟨g, 0, none⟩) 272 272) 272 (hashC S L W ++ hashC S' L' W') := by
  have := h.2.2.2.2
  rw [List.append_nil] at this
  exact this
end
theorem keys_grown {w w' : World} {g : Nat} (h : KeysIs w) (hg : w.grownBy w' (some g)) (hne : 0 < g) : KeysIs w' := fun t ht =>
  (cell_grown (p := ⟨0, t, none⟩) hg (World.block_lt_of_cell? w ⟨0, t, none⟩ (h t ht)) (show 0 ≠ g by omega)).trans (h t ht)
theorem keys_below {w w' : World} (h : KeysIs w) (hb : Below w.heap.size w w') : KeysIs w' := fun t ht =>
  (hb.cell (p := ⟨0, t, none⟩) (World.block_lt_of_cell? w ⟨0, t, none⟩ (h t ht))).trans (h t ht)
theorem keys_lt {w : World} (h : KeysIs w) : 0 < w.heap.size := World.block_lt_of_cell? w ⟨0, 0, none⟩ (h 0 (by omega))
theorem code_made (w : World) (lo : Nat) (k : List Int) (h : k.length ≤ 64) (hlo : lo ≤ w.heap.size) :
    (w.alloc (.cells (codeC k).toArray 85)).ownsRow lo 85 1 (.slice (some ⟨w.heap.size, 0, none⟩) 272 272) 272 (codeC k) := by
  refine ⟨by rw [codeC_length h], .inr ⟨w.heap.size, 272, _, rfl, hlo, heap_alloc_new w _, Nat.le_refl _, by unfold maxLen; omega, by simp [codeC_length h], ?_⟩⟩
  rw [List.take_of_length_le (by simp [codeC_length h])]
theorem stateN_lt (L : List Int) : ∀ x ∈ stateN L, x < 4294967296 := blockN_lt _ _

set_option maxHeartbeats 2000000 in
theorem codeOf_any (k : List Int) (p : Option Addr) (n c : Nat) (xs : List Int) (w : World) (hk : k.length ≤ 64) (hn : n ≤ 3936) (hx : xs.length = n) (h : BytesIn w p n xs) (hb : ∀ x ∈ xs, 0 ≤ x ∧ x < 256) (hKey : KeysIs w) :
    Calls Tryd.prog 59 #[.agg (codeC k).toArray, .slice p n c] w fun e w' => ∃ p' c', e = .returned (.slice p' 32 c') ∧ Own 5 w' w.heap.size w'.heap.size (.slice p' 32 c') 32 (ofL k xs) ∧ Below w.heap.size w w' := by
  have hm := code_made w w.heap.size k hk (Nat.le_refl _)
  have bA : Below w.heap.size w (w.alloc (.cells (codeC k).toArray 85)) := (Below.refl _ _).alloc (Nat.le_refl _) _
  have hsA : (w.alloc (.cells (codeC k).toArray 85)).heap.size = w.heap.size + 1 := by simp
  have l1 := markL_length hk 54
  have l2 := markL_length hk 92
  have b1 := markL_byte k 54
  have b2 := markL_byte k 92
  have HO : Hid (ofL k xs = hashL (markL k 92 ++ hashL (markL k 54 ++ xs))) := rfl
  have H1 : Hid (hashL (markL k 54 ++ xs) = bytesL true (natsL (foldF (stateN (markL k 54)) (behindL xs) (behindN n / 64)))) := by rw [Hid, ← hx]; exact hash_behind l1 (by omega)
  have l32 : (hashL (markL k 54 ++ xs)).length = 32 := hashL_length (by rw [List.length_append]; omega)
  have b32 := hashL_byte (markL k 54 ++ xs)
  have H2 : Hid (hashL (markL k 92 ++ hashL (markL k 54 ++ xs)) = bytesL true (natsL (foldF (stateN (markL k 92)) (behindL (hashL (markL k 54 ++ xs))) (behindN 32 / 64)))) := by
    have := hash_behind (ys := markL k 92) (xs := hashL (markL k 54 ++ xs)) l2 (by omega)
    rw [l32] at this
    exact this
  unfold codeC at hm bA hsA ⊢
  generalize markL k 54 = M1 at *
  generalize markL k 92 = M2 at *
  generalize hashL (M1 ++ xs) = H at *
  obtain ⟨Cs, hCs⟩ : ∃ Cs, Cs = (hashC (stateN M1) M1 (spreadN (wsOf M1)) ++ hashC (stateN M2) M2 (spreadN (wsOf M2))).toArray := ⟨_, rfl⟩
  rw [← hCs] at hm bA hsA ⊢
  clear hCs
  go_enter Tryd.func59, Tryd.ntmps59
  go_wp2_with (fail)
  refine (padBehind_any p n _ xs _ hn hx (in_below h bA)).mono ?_
  rintro e wb ⟨gb, cb, rfl, hgb, hcb, hib, bB⟩
  have lw1 := wsOf_length M1
  have lw2 := wsOf_length M2
  have hB := code_first (S := stateN M1) (W := spreadN (wsOf M1)) (blockN_length _ _) l1 (spreadN_length lw1) (owns_below hm bB)
  have belB := below_on bA bB
  have keyB := keys_below hKey belB
  have hlo := keys_lt hKey
  obtain ⟨q1, q2, q3, q4⟩ := behindN_is hn
  have CT := takeAll_any _ _ _ _ _ w.heap.size w.heap.size (stateN M1) M1 (behindL xs) (some ⟨gb, 64, none⟩) (behindN n) cb (behindN n / 64) wb (stateN_lt M1) b1 (by rw [behindL_length, hx]) (behindL_byte hb) q2 (by omega) hcb hB keyB hlo hib (fun b q e => by simp only [Option.some.injEq, Addr.mk.injEq] at e; omega)
  clear q1 q2 q3 q4 hB hib hcb hm
  go_wp2_with (fail)
  refine CT.mono ?_
  rintro e wc ⟨rfl, L, hC, hLb, gC⟩
  clear CT
  have belC : Below w.heap.size w wc := belB.grown gC belB.size (fun i hi => by cases hi; exact Nat.le_refl _)
  have CS := sum_any _ _ _ _ _ w.heap.size w.heap.size _ L _ wc (foldF_lt (stateN_lt M1) _ _) hC
  rw [← H1.out] at CS
  go_wp2_with (fail)
  refine CS.mono ?_
  rintro e wd ⟨pd, cd, rfl, rd, bD⟩
  clear CS
  have belD := below_on belC bD
  have hD := hC.below bD
  clear hC
  go_wp2_with (fail)
  refine (padBehind_any pd 32 _ H _ (by omega) l32 rd.bytes).mono ?_
  rintro e we ⟨ge, ce, rfl, hge, hce, hie, bE⟩
  have belE := below_on belD bE
  have rowE := (hD.below bE).rowFirst
  have hE := code_second (S' := stateN M2) (W' := spreadN (wsOf M2)) (foldF_length (S := stateN M1) (blockN_length _ _) _ _) hD.2.1 hD.2.2.1 (blockN_length _ _) l2 (spreadN_length lw2) rowE
  have keyE := keys_below hKey belE
  obtain ⟨q1, q2, q3, q4⟩ := behindN_is (n := 32) (by omega)
  have hsz := belD.size
  have hgD := hD.lt
  have CT := takeAll_any _ _ _ _ _ w.heap.size w.heap.size (stateN M2) M2 (behindL H) (some ⟨ge, 64, none⟩) (behindN 32) ce (behindN 32 / 64) we (stateN_lt M2) b2 (by rw [behindL_length, l32]) (behindL_byte b32) q2 (by omega) hce hE keyE hlo hie (fun b q e => by simp only [Option.some.injEq, Addr.mk.injEq] at e; omega)
  clear q1 q2 q3 q4 hE hie hce hD rd rowE
  go_wp2_with (fail)
  refine CT.mono ?_
  rintro e wf ⟨rfl, L2, hF, hLb2, gF⟩
  clear CT
  have belF : Below w.heap.size w wf := belE.grown gF belE.size (fun i hi => by cases hi; exact Nat.le_refl _)
  have CS := sum_any _ _ _ _ _ w.heap.size w.heap.size _ L2 _ wf (foldF_lt (stateN_lt M2) _ _) hF
  rw [← H2.out, ← HO.out] at CS
  clear hF
  go_wp2_with (fail)
  refine CS.mono ?_
  rintro e wg ⟨pg, cg, rfl, rg, bG⟩
  go_wp2
  go_ret
  have hs := belF.size
  exact ⟨_, _, rfl, ⟨owns_mono rg.1 (by omega), rg.2⟩, below_on belF bG⟩

end Go.Proofs.YtdjdanpicbaieaaDoor
