/-
  A row of placed items put in the order of its places by the library's sort. Conditions: a row of one's own, places of which no two are one.
-/
import Derived.Test.YtggbmpgpopenoaaSortLaid
import Derived.Test.YtggbmpgpopenoaaRowOk
namespace Go.Proofs.Ytggbmpgpopenoaa
open Go.RowKit Go.Sort Go.Shelf
set_option maxRecDepth 100000

theorem isNaN_any (x : Int) (X : World) : Calls Try.prog 88 #[.int .i64 x] X fun e w' => e = .returned (.bool false) ∧ w' = X := by
  have h : (x != x) = false := by simp
  go_enter Try.func88, Try.ntmps88
  go_wp2_with (fail)
  go_ret
  exact ⟨rfl, rfl⟩

theorem compare_any (x y : Int) (X : World) : Calls Try.prog 78 #[.int .i64 x, .int .i64 y] X fun e w' => e = .returned (.int .i64 (Lib.compareInt x y)) ∧ w' = X := by
  obtain ⟨r, hr⟩ : ∃ r, r = Lib.compareInt x y := ⟨_, rfl⟩
  rw [← hr]
  unfold Lib.compareInt at hr
  by_cases h1 : x < y
  · have e : r = -1 := by rw [hr]; simp [h1]
    subst e
    clear hr
    go_enter Try.func78, Try.ntmps78
    go_wp2_with (go_at_call 88; refine (isNaN_any _ _).mono ?_; rintro z w1 ⟨rfl, rfl⟩)
    go_ret
    exact ⟨rfl, rfl⟩
  · by_cases h2 : y < x
    · have e : r = 1 := by rw [hr]; simp [h1, h2]
      subst e
      clear hr
      go_enter Try.func78, Try.ntmps78
      go_wp2_with (go_at_call 88; refine (isNaN_any _ _).mono ?_; rintro z w1 ⟨rfl, rfl⟩)
      go_ret
      exact ⟨rfl, rfl⟩
    · have e : r = 0 := by rw [hr]; simp [h1, h2]
      subst e
      clear hr
      go_enter Try.func78, Try.ntmps78
      go_wp2_with (go_at_call 88; refine (isNaN_any _ _).mono ?_; rintro z w1 ⟨rfl, rfl⟩)
      go_ret
      exact ⟨rfl, rfl⟩

theorem told1_any (k : Int) (s : ByteArray) (t d : Int) (p : Option Addr) (n c : Nat) (k' : Int) (s' : ByteArray) (t' d' : Int) (p' : Option Addr) (n' c' : Nat) (W : World) :
    Calls Try.prog 77 #[.agg #[.int .i64 k, .string s, .int .i64 t, .int .i64 d, .slice p n c], .agg #[.int .i64 k', .string s', .int .i64 t', .int .i64 d', .slice p' n' c']] W fun e w' => e = .returned (.int .i64 (Lib.compareInt k k')) ∧ ∃ q os', w' = grow (W.drewN q) os' := by
  have hcon := fun W' => compare_any k k' W'
  generalize Lib.compareInt k k' = r at hcon ⊢
  go_enter Try.func77, Try.ntmps77
  go_wp2_with (go_at_call 78; refine (hcon _).mono ?_; rintro e w' ⟨rfl, rfl⟩)
  go_ret
  exact ⟨rfl, 0, _, by rw [alloc_eq_grow, alloc_eq_grow, grow_grow]; rfl⟩

def cmpP (x y : PIt) : Int := Lib.compareInt x.k y.k
theorem ltP (x y : PIt) : ltOf cmpP x y = decide (x.k < y.k) := by
  unfold ltOf cmpP Lib.compareInt
  by_cases h1 : x.k < y.k
  · simp [h1]
  · by_cases h2 : y.k < x.k <;> simp [h1, h2]
theorem swoP : SWO (ltOf cmpP) where
  irrefl x := by rw [ltP]; simp
  trans x y z h1 h2 := by rw [ltP] at *; simp at *; omega
  ntrans x y z h1 h2 := by rw [ltP] at *; simp at *; omega

theorem holdsP {w : World} {lo g n cap : Nat} {d : List PIt} (h : w.ownsRow lo 96 5 (.slice (some ⟨g, 0, none⟩) n cap) n (flatP d)) (hl : d.length = n) : HoldsK PIt.vals 5 w g 0 d.toArray := by
  intro j hj
  rw [size_flatK] at hj
  simp only [List.size_toArray] at hj
  rw [Nat.zero_add]
  refine ⟨?_, h.frozenAt j⟩
  rw [h.cellAt j (by omega), get_flatK _ _ _ _ (by simpa using hj)]
  have e := flatP_at d (j / 5) (j % 5) (Nat.mod_lt _ (by decide)) (by omega)
  rw [show j / 5 * 5 + j % 5 = j by omega] at e
  rw [e]
  have e2 : d.getD (j / 5) default = d.toArray[j / 5]! := by simp [List.getD_eq_getElem?_getD]
  rw [e2]
  generalize d.toArray[j / 5]! = z
  have hm : j % 5 < z.vals.length := by rw [PIt.vals_length]; omega
  simp only [id_eq]
  rw [List.getElem?_eq_getElem hm, getElem!_pos z.vals (j % 5) hm]

theorem sortedP_unique {d L : List PIt} (hp : d.Perm L) (hs : L.Pairwise (fun a b => a.k < b.k)) (d' : Array PIt) (hd : d'.toList.Perm d) (hsort : SortedIn (ltOf cmpP) 0 d'.size d') : d'.toList = L := by
  have h1 : d'.toList.Pairwise (fun a b => a.k ≤ b.k) := by
    rw [List.pairwise_iff_getElem]
    intro i j hi hj hij
    have := hsort i j (Nat.zero_le _) hij (by simpa using hj)
    rw [ltP, getElem!_pos d' j (by simpa using hj), getElem!_pos d' i (by simpa using hi)] at this
    simp only [decide_eq_false_iff_not, Array.getElem_toList] at this ⊢
    omega
  have h2 : L.Pairwise (fun a b => a.k ≤ b.k) := hs.imp (fun h => by omega)
  have hp2 := hd.trans hp
  refine hp2.eq_of_pairwise ?_ h1 h2
  intro a b ha hb hab hba
  have hb' := hb
  have ha' := hp2.mem_iff.1 ha
  by_cases e : a = b
  · exact e
  · exfalso
    obtain ⟨i, hi, rfl⟩ := List.getElem_of_mem ha'
    obtain ⟨j, hj, rfl⟩ := List.getElem_of_mem hb'
    have hs2 := List.pairwise_iff_getElem.1 hs
    rcases Nat.lt_trichotomy i j with h | h | h
    · have := hs2 i j hi hj h; omega
    · subst h; exact e rfl
    · have := hs2 j i hj hi h; omega

theorem sortWorld_grown (w : World) (g n : Nat) (d : Array PIt) (os : Array Obj) : w.grownBy (sortWorldK PIt.vals 5 w g 0 n d os) (some g) := by
  refine ⟨rfl, rfl, rfl, by simp [sortWorldK, putRowK], fun k hk hne => ?_⟩
  have hne' : g ≠ k := fun e => hne (by rw [e])
  show ((w.heap.modify g _) ++ os)[k]? = w.heap[k]?
  rw [Array.getElem?_append_left (by simpa using hk), Array.getElem?_modify, if_neg hne']

set_option maxHeartbeats 2000000 in
theorem sort_any (g cap : Nat) (n : Nat) (d L : List PIt) (w : World) (lo : Nat) (h : w.ownsRow lo 96 5 (.slice (some ⟨g, 0, none⟩) n cap) n (flatP d)) (hl : d.length = n) (hn : n ≤ 1048577) (hp : d.Perm L) (hs : L.Pairwise (fun a b => a.k < b.k)) :
    Calls Try.prog 76 #[.slice (some ⟨g, 0, none⟩) n cap, .func (.func 77) #[] #[]] w fun e w' => e = .returned (.tuple #[]) ∧ PlIn w' (some ⟨g, 0, none⟩) n cap L ∧ w.grownBy w' (some g) := by
  have hH := holdsP h hl
  have hg : g < w.heap.size := (h.lt g rfl).2
  have hcap : n ≤ cap ∧ cap ≤ 9223372036854775807 := ⟨(plIn_own h hl).1, (plIn_own h hl).2.1⟩
  have eg : ∀ args w, (callFunc 77 args).run Try.prog w = .ok (.enter 77 args) w := enters_of Try.func77 (by kernel_rfl) rfl
  have hcmp : CmpLays Try.prog 77 #[] PIt.vals 5 cmpP g 0 d.toArray.size w := fun m os dk _ x y => told1_any x.k x.x.s x.x.t x.x.d x.x.p x.x.n x.x.c y.k y.x.s y.x.t y.x.d y.x.p y.x.n y.x.c _
  have hcon := AnyQ.slices_SortFunc sortP 5 Try.isAgg96 Try.sizeOf96 PIt.vals PIt.vals_length (fun x v hv => flatP_one [x] v (by simpa [flatP] using hv)) cmpP swoP 77 #[] g 0 cap d.toArray w eg hcmp hH hg (by simp; omega)
  have hsz : d.toArray.size = n := by simpa using hl
  rw [hsz] at hcon
  refine (show Calls Try.prog 76 _ w _ from hcon).mono ?_
  rintro e w' ⟨rfl, d', q, os, hperm, hsort, rfl⟩
  have hds : d'.size = n := hperm.1.trans hsz
  have hd : d'.toList.Perm d := by
    have := hperm.2.2
    rw [show d'.extract 0 n = d' by rw [← hds]; simp, show d.toArray.extract 0 n = d.toArray by rw [← hsz]; simp] at this
    simpa using this
  have hL := sortedP_unique hp hs d' hd (by rw [hds]; exact hsort)
  have hHs := holdsK_sortWorldK PIt.vals 5 w g 0 q d.toArray d' os hg hH (by rw [hds, hsz])
  refine ⟨rfl, ⟨hcap.1, hcap.2, fun _ => ⟨g, 0, rfl, fun i j v hi hv => ?_⟩⟩, sortWorld_grown _ _ _ _ _⟩
  have hj : j < 5 := (List.getElem?_eq_some_iff.1 hv).1
  have hc := (hHs (i * 5 + j) (by rw [size_flatK, hds]; omega)).1
  rw [get_flatK _ _ _ _ (by rw [hds]; omega), show (i * 5 + j) / 5 = i by omega, show (i * 5 + j) % 5 = j by omega] at hc
  rw [Nat.zero_add] at hc ⊢
  rw [hc]
  have e1 : d'[i]! = L.getD i default := by rw [← hL, getElem!_pos d' i (by omega), List.getD_eq_getElem?_getD, List.getElem?_eq_getElem (by simpa using (show i < d'.size by omega))]; rfl
  simp only [id_eq]
  rw [e1, getElem!_pos (L.getD i default).vals j (by rw [PIt.vals_length]; exact hj)]
  exact (List.getElem?_eq_getElem (by rw [PIt.vals_length]; exact hj)).symm.trans hv

end Go.Proofs.Ytggbmpgpopenoaa
