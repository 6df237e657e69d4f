/-
  A row of placed items put in the order of its places by the library's sort. Conditions: a row of one's own, places of which no two are one.
  shelved: the items of a queue, in their order, by route. Conditions: items that lie there, as many as a law hands over.
  FnExactUnhex: what spec.Unhex and impl.Unhex answer; conditions: at most 1048576 signs.
  Whether an item is right, as the specification and the program tell it; conditions: a route that there can be.
  Whether a queue is right, as the specification tells it. Conditions: items that lie there, as many as a law hands over.
-/
import Derived.Test.YtkdbcplcpcdnbaaPart04
import Derived.Test.YtkdbcplcpcdnbaaPart03
import Derived.Test.YtkdbcplcpcdnbaaPart02
import Derived.Test.YtkdbcplcpcdnbaaPart01
namespace Go.Proofs.Ytkdbcplcpcdnbaa
open Go.RowKit Go.Sort Go.Shelf
set_option maxRecDepth 100000

theorem isNaN_any (x : Int) (X : World) : Calls Try.prog 96 #[.int .i64 x] X fun e w' => e = .returned (.bool false) ∧ w' = X := by
  have h : (x != x) = false := by simp
  go_enter Try.func96, Try.ntmps96
  go_wp2_with (fail)
  go_ret
  exact ⟨rfl, rfl⟩

theorem compare_any (x y : Int) (X : World) : Calls Try.prog 81 #[.int .i64 x, .int .i64 y] X fun e w' => e = .returned (.int .i64 (Lib.compareInt x y)) ∧ w' = X := by
  obtain ⟨r, hr⟩ : ∃ r, r = Lib.compareInt x y := ⟨_, rfl⟩
  rw [← hr]
  unfold Lib.compareInt at hr
  by_cases h1 : x < y
  · have e : r = -1 := by rw [hr]; simp [h1]
    subst e
    clear hr
    go_enter Try.func81, Try.ntmps81
    go_wp2_with (go_at_call 96; refine (isNaN_any _ _).mono ?_; rintro z w1 ⟨rfl, rfl⟩)
    go_ret
    exact ⟨rfl, rfl⟩
  · by_cases h2 : y < x
    · have e : r = 1 := by rw [hr]; simp [h1, h2]
      subst e
      clear hr
      go_enter Try.func81, Try.ntmps81
      go_wp2_with (go_at_call 96; refine (isNaN_any _ _).mono ?_; rintro z w1 ⟨rfl, rfl⟩)
      go_ret
      exact ⟨rfl, rfl⟩
    · have e : r = 0 := by rw [hr]; simp [h1, h2]
      subst e
      clear hr
      go_enter Try.func81, Try.ntmps81
      go_wp2_with (go_at_call 96; refine (isNaN_any _ _).mono ?_; rintro z w1 ⟨rfl, rfl⟩)
      go_ret
      exact ⟨rfl, rfl⟩

theorem told1_any (k : Int) (s : ByteArray) (t d : Int) (p : Option Addr) (n c : Nat) (k' : Int) (s' : ByteArray) (t' d' : Int) (p' : Option Addr) (n' c' : Nat) (W : World) :
    Calls Try.prog 80 #[.agg #[.int .i64 k, .string s, .int .i64 t, .int .i64 d, .slice p n c], .agg #[.int .i64 k', .string s', .int .i64 t', .int .i64 d', .slice p' n' c']] W fun e w' => e = .returned (.int .i64 (Lib.compareInt k k')) ∧ ∃ q os', w' = grow (W.drewN q) os' := by
  have hcon := fun W' => compare_any k k' W'
  generalize Lib.compareInt k k' = r at hcon ⊢
  go_enter Try.func80, Try.ntmps80
  go_wp2_with (go_at_call 81; refine (hcon _).mono ?_; rintro e w' ⟨rfl, rfl⟩)
  go_ret
  exact ⟨rfl, 0, _, by rw [alloc_eq_grow, alloc_eq_grow, grow_grow]; rfl⟩

def cmpP (x y : PIt) : Int := Lib.compareInt x.k y.k
theorem ltP (x y : PIt) : ltOf cmpP x y = decide (x.k < y.k) := by
  unfold ltOf cmpP Lib.compareInt
  by_cases h1 : x.k < y.k
  · simp [h1]
  · by_cases h2 : y.k < x.k <;> simp [h1, h2]
theorem swoP : SWO (ltOf cmpP) where
  irrefl x := by rw [ltP]; simp
  trans x y z h1 h2 := by rw [ltP] at *; simp at *; omega
  ntrans x y z h1 h2 := by rw [ltP] at *; simp at *; omega

theorem holdsP {w : World} {lo g n cap : Nat} {d : List PIt} (h : w.ownsRow lo 102 5 (.slice (some ⟨g, 0, none⟩) n cap) n (flatP d)) (hl : d.length = n) : HoldsK PIt.vals 5 w g 0 d.toArray := by
  intro j hj
  rw [size_flatK] at hj
  simp only [List.size_toArray] at hj
  rw [Nat.zero_add]
  refine ⟨?_, h.frozenAt j⟩
  rw [h.cellAt j (by omega), get_flatK _ _ _ _ (by simpa using hj)]
  have e := flatP_at d (j / 5) (j % 5) (Nat.mod_lt _ (by decide)) (by omega)
  rw [show j / 5 * 5 + j % 5 = j by omega] at e
  rw [e]
  have e2 : d.getD (j / 5) default = d.toArray[j / 5]! := by simp [List.getD_eq_getElem?_getD]
  rw [e2]
  generalize d.toArray[j / 5]! = z
  have hm : j % 5 < z.vals.length := by rw [PIt.vals_length]; omega
  simp only [id_eq]
  rw [List.getElem?_eq_getElem hm, getElem!_pos z.vals (j % 5) hm]

theorem sortedP_unique {d L : List PIt} (hp : d.Perm L) (hs : L.Pairwise (fun a b => a.k < b.k)) (d' : Array PIt) (hd : d'.toList.Perm d) (hsort : SortedIn (ltOf cmpP) 0 d'.size d') : d'.toList = L := by
  have h1 : d'.toList.Pairwise (fun a b => a.k ≤ b.k) := by
    rw [List.pairwise_iff_getElem]
    intro i j hi hj hij
    have := hsort i j (Nat.zero_le _) hij (by simpa using hj)
    rw [ltP, getElem!_pos d' j (by simpa using hj), getElem!_pos d' i (by simpa using hi)] at this
    simp only [decide_eq_false_iff_not, Array.getElem_toList] at this ⊢
    omega
  have h2 : L.Pairwise (fun a b => a.k ≤ b.k) := hs.imp (fun h => by omega)
  have hp2 := hd.trans hp
  refine hp2.eq_of_pairwise ?_ h1 h2
  intro a b ha hb hab hba
  have hb' := hb
  have ha' := hp2.mem_iff.1 ha
  by_cases e : a = b
  · exact e
  · exfalso
    obtain ⟨i, hi, rfl⟩ := List.getElem_of_mem ha'
    obtain ⟨j, hj, rfl⟩ := List.getElem_of_mem hb'
    have hs2 := List.pairwise_iff_getElem.1 hs
    rcases Nat.lt_trichotomy i j with h | h | h
    · have := hs2 i j hi hj h; omega
    · subst h; exact e rfl
    · have := hs2 j i hj hi h; omega

theorem sortWorld_grown (w : World) (g n : Nat) (d : Array PIt) (os : Array Obj) : w.grownBy (sortWorldK PIt.vals 5 w g 0 n d os) (some g) := by
  refine ⟨rfl, rfl, rfl, by simp [sortWorldK, putRowK], fun k hk hne => ?_⟩
  have hne' : g ≠ k := fun e => hne (by rw [e])
  show ((w.heap.modify g _) ++ os)[k]? = w.heap[k]?
  rw [Array.getElem?_append_left (by simpa using hk), Array.getElem?_modify, if_neg hne']

set_option maxHeartbeats 2000000 in
theorem sort_any (g cap : Nat) (n : Nat) (d L : List PIt) (w : World) (lo : Nat) (h : w.ownsRow lo 102 5 (.slice (some ⟨g, 0, none⟩) n cap) n (flatP d)) (hl : d.length = n) (hn : n ≤ 1048577) (hp : d.Perm L) (hs : L.Pairwise (fun a b => a.k < b.k)) :
    Calls Try.prog 79 #[.slice (some ⟨g, 0, none⟩) n cap, .func (.func 80) #[] #[]] w fun e w' => e = .returned (.tuple #[]) ∧ PlIn w' (some ⟨g, 0, none⟩) n cap L ∧ w.grownBy w' (some g) := by
  have hH := holdsP h hl
  have hg : g < w.heap.size := (h.lt g rfl).2
  have hcap : n ≤ cap ∧ cap ≤ 9223372036854775807 := ⟨(plIn_own h hl).1, (plIn_own h hl).2.1⟩
  have eg : ∀ args w, (callFunc 80 args).run Try.prog w = .ok (.enter 80 args) w := enters_of Try.func80 (by kernel_rfl) rfl
  have hcmp : CmpLays Try.prog 80 #[] PIt.vals 5 cmpP g 0 d.toArray.size w := fun m os dk _ x y => told1_any x.k x.x.s x.x.t x.x.d x.x.p x.x.n x.x.c y.k y.x.s y.x.t y.x.d y.x.p y.x.n y.x.c _
  have hcon := AnyQ.slices_SortFunc sortP 5 Try.isAgg102 Try.sizeOf102 PIt.vals PIt.vals_length (fun x v hv => flatP_one [x] v (by simpa [flatP] using hv)) cmpP swoP 80 #[] g 0 cap d.toArray w eg hcmp hH hg (by simp; omega)
  have hsz : d.toArray.size = n := by simpa using hl
  rw [hsz] at hcon
  refine (show Calls Try.prog 79 _ w _ from hcon).mono ?_
  rintro e w' ⟨rfl, d', q, os, hperm, hsort, rfl⟩
  have hds : d'.size = n := hperm.1.trans hsz
  have hd : d'.toList.Perm d := by
    have := hperm.2.2
    rw [show d'.extract 0 n = d' by rw [← hds]; simp, show d.toArray.extract 0 n = d.toArray by rw [← hsz]; simp] at this
    simpa using this
  have hL := sortedP_unique hp hs d' hd (by rw [hds]; exact hsort)
  have hHs := holdsK_sortWorldK PIt.vals 5 w g 0 q d.toArray d' os hg hH (by rw [hds, hsz])
  refine ⟨rfl, ⟨hcap.1, hcap.2, fun _ => ⟨g, 0, rfl, fun i j v hi hv => ?_⟩⟩, sortWorld_grown _ _ _ _ _⟩
  have hj : j < 5 := (List.getElem?_eq_some_iff.1 hv).1
  have hc := (hHs (i * 5 + j) (by rw [size_flatK, hds]; omega)).1
  rw [get_flatK _ _ _ _ (by rw [hds]; omega), show (i * 5 + j) / 5 = i by omega, show (i * 5 + j) % 5 = j by omega] at hc
  rw [Nat.zero_add] at hc ⊢
  rw [hc]
  have e1 : d'[i]! = L.getD i default := by rw [← hL, getElem!_pos d' i (by omega), List.getD_eq_getElem?_getD, List.getElem?_eq_getElem (by simpa using (show i < d'.size by omega))]; rfl
  simp only [id_eq]
  rw [e1, getElem!_pos (L.getD i default).vals j (by rw [PIt.vals_length]; exact hj)]
  exact (List.getElem?_eq_getElem (by rw [PIt.vals_length]; exact hj)).symm.trans hv

end Go.Proofs.Ytkdbcplcpcdnbaa

namespace Go.Proofs.Ytkdbcplcpcdnbaa
open Go.RowKit
set_option maxRecDepth 100000

/-- The items with their places. -/
def plL (its : List ItA) : List PIt := its.zipIdx.map fun z => ⟨(z.2 : Int), z.1⟩
theorem plL_push (its : List ItA) (x : ItA) : plL (its ++ [x]) = plL its ++ [⟨(its.length : Int), x⟩] := by simp [plL, List.zipIdx_append]
theorem plL_length (its : List ItA) : (plL its).length = its.length := by simp [plL]

theorem build_shelf (B : Nat) (X : World) : (Instr.build 75 #[(0, .map (some B))]).run Try.prog X = .ok (.agg #[.map (some B), .int .i64 0]) X := by kernel_rfl

set_option maxHeartbeats 8000000 in
theorem shelved_any (p : Option Addr) (n c : Nat) (its : List ItA) (w : World) (hn : n ≤ 1048576) (hl : its.length = n) (h : ItemsIn w p n its) (hs : ∀ x ∈ its, x.s.size ≤ 1048576) :
    Calls Try.prog 41 #[.slice p n c] w fun e w' => ∃ S, e = .returned (.pointer (some ⟨S, 0, none⟩)) ∧ Shelf w' w.heap.size S (plL its) n n ∧ Below w.heap.size w w' := by
  have hmm := @run_makeMap Try.prog
  have hbs := build_shelf w.heap.size (w.alloc (.map #[] 0))
  obtain ⟨w1, hw1⟩ : ∃ w1, w1 = w.alloc (.map #[] 0) := ⟨_, rfl⟩
  have hM := MapW.made w
  have b1 : Below w.heap.size w w1 := by rw [hw1]; exact made_below _ _ (Below.refl _ _)
  have z1 : w1.heap.size = w.heap.size + 1 := by rw [hw1]; simp
  rw [← hw1] at hM hbs
  obtain ⟨w2, hw2⟩ : ∃ w2, w2 = w1.alloc (.cells #[.map (some w.heap.size), .int .i64 0] 75) := ⟨_, rfl⟩
  have b2 : Below w1.heap.size w1 w2 := by rw [hw2]; exact made_below _ _ (Below.refl _ _)
  have C2 : Cells w2 w1.heap.size #[.map (some w.heap.size), .int .i64 0] := by rw [hw2]; exact Cells.made _ _ _
  have S0 : Shelf w2 w.heap.size w1.heap.size [] 0 0 := ⟨w.heap.size, 0, fun _ => none, C2, by omega, Nat.le_refl _, ⟨hM.on b2, Nat.le_refl _, fun _ _ => rfl, fun s hs => absurd rfl hs, fun s s' v v' _ hv => (by cases hv), fun s v hv => (by cases hv)⟩⟩
  have kb : Below w.heap.size w w2 := below_on b1 b2
  replace hw1 : Hid (w.alloc (.map #[] 0) = w1) := hw1.symm
  replace hw2 : Hid (w1.alloc (.cells #[.map (some w.heap.size), .int .i64 0] 75) = w2) := hw2.symm
  clear hM b1 b2 C2 z1
  go_enter Try.func41, Try.ntmps41
  go_wp2_with (first | rw [hw1.out] | rw [hw2.out])
  obtain ⟨S, hS⟩ : ∃ S, S = w1.heap.size := ⟨_, rfl⟩
  rw [← hS] at S0 ⊢
  clear hS hw1 hw2 hbs hmm
  go_loopw [11] (fun i wr => ∃ k : Nat, k ≤ n ∧ i = .int .i64 k ∧ Shelf wr w.heap.size S (plL (its.take k)) k k ∧ Below w.heap.size w wr) (fun i _ => n - (intOf i).toNat)
  case atStart => exact ⟨0, Nat.zero_le _, rfl, S0, kb⟩
  case round =>
    clear S0 kb
    obtain ⟨k, hk, rfl, hSh, hbel⟩ := hrel
    by_cases hlt : k < n
    · obtain ⟨b, o, rfl, hc⟩ := itemsIn_on h hbel (by omega)
      obtain ⟨x, hx⟩ : ∃ x, its.getD k default = x := ⟨_, rfl⟩
      obtain ⟨l0, l1, l2, l3⟩ := ItemsIn.at hc hlt hx
      have hsx := hs x (hx ▸ getD_mem (by omega))
      have hst : plL (its.take (k + 1)) = plL (its.take k) ++ [⟨(k : Int), x⟩] := by
        rw [take_getD (by omega), hx, plL_push, List.length_take, Nat.min_eq_left (by omega)]
      have hln : (plL (its.take k)).length ≤ 1048577 := by rw [plL_length, List.length_take]; omega
      obtain ⟨s, t, d, xp, xn, xc, xs⟩ := x
      dsimp only at l0 l1 l2 l3 hsx
      obtain ⟨w3, hw3⟩ : ∃ w3, w3 = wr.alloc (.cells #[.string s, .int .i64 t, .int .i64 d, .slice xp xn xc] 26) := ⟨_, rfl⟩
      have b3 : Below wr.heap.size wr w3 := by rw [hw3]; exact made_below _ _ (Below.refl _ _)
      have C3 : Cells w3 wr.heap.size #[.string s, .int .i64 t, .int .i64 d, .slice xp xn xc] := by rw [hw3]; exact Cells.made _ _ _
      have m0 : w3.cell? ⟨wr.heap.size, 0, none⟩ = some (.string s) := (C3.2 0).1
      have m1 : w3.cell? ⟨wr.heap.size, 1, none⟩ = some (.int .i64 t) := (C3.2 1).1
      have m2 : w3.cell? ⟨wr.heap.size, 2, none⟩ = some (.int .i64 d) := (C3.2 2).1
      have m3 : w3.cell? ⟨wr.heap.size, 3, none⟩ = some (.slice xp xn xc) := (C3.2 3).1
      have hA := add_any w3 w.heap.size S (plL (its.take k)) k k s t d xp xn xc xs hsx (by omega) hln ⟨by omega, by omega⟩ (hSh.on b3)
      have hb3 := below_on hbel b3
      rw [← hst] at hA
      replace hw3 : Hid (wr.alloc (.cells #[.string s, .int .i64 t, .int .i64 d, .slice xp xn xc] 26) = w3) := hw3.symm
      clear hc h hx hs hst hln C3 b3 hbel hSh
      go_wp2_with (rw [hw3.out])
      refine hA.mono ?_
      rintro z w4 ⟨rfl, hSh4, hb4⟩
      have hbel4 : Below w.heap.size w w4 := hb3.trans hb4
      have hSh5 : Shelf w4 w.heap.size S (plL (its.take (k + 1))) ((k + 1 : Nat) : Int) (k + 1) := by
        have e : ((k + 1 : Nat) : Int) = (k : Int) + 1 := by omega
        rw [e]; exact hSh4
      clear hA hb3 hb4 hSh4
      go_wp2_with (fail)
      go_roundw
      case rel => exact ⟨k + 1, by omega, by go_num, hSh5, hbel4⟩
      case measure => simp [intOf]; omega
    · have hkn : k = n := by omega
      subst hkn
      rw [show its.take k = its by rw [← hl, List.take_length]] at hSh
      go_wp2_with (fail)
      go_ret
      exact ⟨S, rfl, hSh, hbel⟩

end Go.Proofs.Ytkdbcplcpcdnbaa

namespace Go.Proofs.Ytkdbcplcpcdnbaa
open Go.RowKit
set_option maxRecDepth 100000

/-- What a sign of 16 means; -1. -/
def hv (c : Int) : Int := if 48 ≤ c ∧ c ≤ 57 then c - 48 else if 97 ≤ c ∧ c ≤ 102 then c - 87 else -1
theorem hv_le (c : Int) : -1 ≤ hv c ∧ hv c < 16 := by unfold hv; split <;> (try split) <;> omega
theorem hv_high (c : Int) (h : 103 ≤ c) : hv c = -1 := by unfold hv; rw [if_neg (by omega), if_neg (by omega)]

/-- The byte of a text at a place. -/
def ch (s : ByteArray) (i : Nat) : Int := (s.data.toList.getD i 0).toNat
theorem ch_at (s : ByteArray) (i : Nat) (pf : i < s.size) : ((s[i]'pf).toNat : Int) = ch s i := by
  unfold ch
  rw [List.getD_eq_getElem?_getD, List.getElem?_eq_getElem (by simpa using pf)]
  rfl
theorem ch_lt (s : ByteArray) (i : Nat) : 0 ≤ ch s i ∧ ch s i < 256 := by
  unfold ch
  have := (s.data.toList.getD i 0).toNat_lt
  omega

/-- The first k bytes that the signs mean. -/
def outL (s : ByteArray) (k : Nat) : List Int := (List.range k).map fun (j : Nat) => 16 * hv (ch s (2 * j)) + hv (ch s (2 * j + 1))
theorem outL_length (s : ByteArray) (k : Nat) : (outL s k).length = k := by simp [outL]
theorem outL_step (s : ByteArray) (k : Nat) : outL s k ++ [16 * hv (ch s (2 * k)) + hv (ch s (2 * k + 1))] = outL s (k + 1) := by simp [outL, List.range_succ]

def goodB (s : ByteArray) : Bool := s.size % 2 == 0 && (List.range s.size).all fun (j : Nat) => decide (0 ≤ hv (ch s j))
theorem good_iff (s : ByteArray) : goodB s = true ↔ s.size % 2 = 0 ∧ ∀ j, j < s.size → 0 ≤ hv (ch s j) := by simp [goodB]
theorem good_not {s : ByteArray} {j : Nat} (hj : j < s.size) (h : hv (ch s j) < 0) : goodB s = false := by
  rw [Bool.eq_false_iff]
  intro hg
  have := ((good_iff s).1 hg).2 j hj
  omega
theorem good_odd {s : ByteArray} (h : ¬ s.size % 2 = 0) : goodB s = false := by
  rw [Bool.eq_false_iff]
  intro hg
  exact h ((good_iff s).1 hg).1
def unN (s : ByteArray) : Nat := if goodB s = true then s.size / 2 else 0
def unL (s : ByteArray) : List Int := if goodB s = true then outL s (s.size / 2) else []

theorem l1Sign_any (c : Int) (w : World) (h0 : 0 ≤ c) (h1 : c < 256) : Calls Try.prog 86 #[.int .u8 c] w fun e w' => e = .returned (.int .i64 (hv c)) ∧ w' = w := by
  by_cases a1 : 48 ≤ c
  · by_cases a2 : c ≤ 57
    · have e : hv c = c - 48 := by unfold hv; rw [if_pos ⟨a1, a2⟩]
      rw [e]
      go_enter Try.func86, Try.ntmps86
      go_wp2
      go_ret
      exact ⟨rfl, rfl⟩
    · by_cases a3 : 97 ≤ c
      · by_cases a4 : c ≤ 102
        · have e : hv c = c - 87 := by unfold hv; rw [if_neg (by omega), if_pos ⟨a3, a4⟩]
          rw [e]
          go_enter Try.func86, Try.ntmps86
          go_wp2
          go_ret
          exact ⟨rfl, rfl⟩
        · rw [hv_high c (by omega)]
          go_enter Try.func86, Try.ntmps86
          go_wp2
          go_ret
          exact ⟨rfl, rfl⟩
      · have e : hv c = -1 := by unfold hv; rw [if_neg (by omega), if_neg (by omega)]
        rw [e]
        go_enter Try.func86, Try.ntmps86
        go_wp2
        go_ret
        exact ⟨rfl, rfl⟩
  · have e : hv c = -1 := by unfold hv; rw [if_neg (by omega), if_neg (by omega)]
    rw [e]
    have a3 : ¬ 97 ≤ c := by omega
    go_enter Try.func86, Try.ntmps86
    go_wp2
    go_ret
    exact ⟨rfl, rfl⟩

theorem hexHalf_good (r : Int) (w : World) (h : 0 ≤ hv r) : Calls Try.prog 88 #[.int .i32 r] w fun e w' => e = .returned (.tuple #[.int .u8 (hv r), .bool true]) ∧ w' = w := by
  by_cases a1 : 48 ≤ r ∧ r ≤ 57
  · have e : hv r = r - 48 := by unfold hv; rw [if_pos a1]
    rw [e]
    obtain ⟨a1, a2⟩ := a1
    clear h
    go_enter Try.func88, Try.ntmps88
    go_wp2
    go_ret2
    exact ⟨rfl, rfl⟩
  · by_cases a3 : 97 ≤ r ∧ r ≤ 102
    · have e : hv r = r - 87 := by unfold hv; rw [if_neg a1, if_pos a3]
      rw [e]
      obtain ⟨a3, a4⟩ := a3
      have a2 : ¬ r ≤ 57 := by omega
      have a5 : 48 ≤ r := by omega
      clear h a1
      go_enter Try.func88, Try.ntmps88
      go_wp2
      go_ret2
      refine ⟨?_, rfl⟩
      congr 3
      go_num
    · exfalso
      unfold hv at h
      rw [if_neg a1, if_neg a3] at h
      omega

theorem hexHalf_bad (r : Int) (w : World) (h : hv r < 0) : Calls Try.prog 88 #[.int .i32 r] w fun e w' => e = .returned (.tuple #[.int .u8 0, .bool false]) ∧ w' = w := by
  have h1 : ¬ (48 ≤ r ∧ r ≤ 57) := fun a => by unfold hv at h; rw [if_pos a] at h; omega
  have h2 : ¬ (97 ≤ r ∧ r ≤ 102) := fun a => by unfold hv at h; rw [if_neg h1, if_pos a] at h; omega
  clear h
  by_cases a1 : 48 ≤ r
  · have a2 : ¬ r ≤ 57 := fun h => h1 ⟨a1, h⟩
    by_cases a3 : 97 ≤ r
    · have a4 : ¬ r ≤ 102 := fun h => h2 ⟨a3, h⟩
      clear h1 h2
      go_enter Try.func88, Try.ntmps88
      go_wp2
      go_ret2
      exact ⟨rfl, rfl⟩
    · clear h1 h2
      go_enter Try.func88, Try.ntmps88
      go_wp2
      go_ret2
      exact ⟨rfl, rfl⟩
  · have a3 : ¬ 97 ≤ r := by omega
    clear h1 h2
    go_enter Try.func88, Try.ntmps88
    go_wp2
    go_ret2
    exact ⟨rfl, rfl⟩

theorem l1Sign_ch (s : ByteArray) (i : Nat) (w : World) : Calls Try.prog 86 #[.int .u8 (ch s i)] w fun e w' => e = .returned (.int .i64 (hv (ch s i))) ∧ w' = w := l1Sign_any _ w (ch_lt s i).1 (ch_lt s i).2

theorem ch_int (s : ByteArray) (i : Nat) (n : Int) (h : n = (i : Int)) (pf : n.toNat < s.size) : ((s[n.toNat]'pf).toNat : Int) = ch s i := by
  subst h
  exact ch_at s i pf

theorem bad_end {s : ByteArray} {w W : World} {p : Option Addr} {c : Nat} (hb : goodB s = false) (ho : W.ownsRow w.heap.size 5 1 (.slice p 0 c) 0 []) (hbel : Below w.heap.size w W) :
    ∃ p' c', Ending.returned (.tuple #[.slice p 0 c, .bool false]) = .returned (.tuple #[.slice p' (unN s) c', .bool (goodB s)]) ∧ Own 5 W w.heap.size W.heap.size (.slice p' (unN s) c') (unN s) (unL s) ∧ Below w.heap.size w W := by
  have e1 : unN s = 0 := by simp [unN, hb]
  have e2 : unL s = [] := by simp [unL, hb]
  rw [e1, e2, hb]
  exact ⟨p, c, rfl, .of ho, hbel⟩

theorem good_end {s : ByteArray} {w W : World} {k : Nat} {v : Value} (h2 : s.size % 2 = 0) (hk : k = s.size / 2) (hg : ∀ j, j < s.size → 0 ≤ hv (ch s j)) (ho : W.ownsRow w.heap.size 5 1 v k ((outL s k).map (Value.int .u8))) (hbel : Below w.heap.size w W) :
    ∃ p' c', Ending.returned (.tuple #[v, .bool true]) = .returned (.tuple #[.slice p' (unN s) c', .bool (goodB s)]) ∧ Own 5 W w.heap.size W.heap.size (.slice p' (unN s) c') (unN s) (unL s) ∧ Below w.heap.size w W := by
  have hb : goodB s = true := (good_iff s).2 ⟨h2, hg⟩
  have e1 : unN s = k := by simp [unN, hb, hk]
  have e2 : unL s = outL s k := by simp [unL, hb, hk]
  rw [e1, e2, hb]
  obtain ⟨p, c, rfl⟩ := owns_form ho
  exact ⟨p, c, rfl, .of ho, hbel⟩

theorem good_more {s : ByteArray} {k : Nat} (h : ∀ j, j < 2 * k → 0 ≤ hv (ch s j)) (hx : ¬ hv (ch s (2 * k)) < 0) (hy : ¬ hv (ch s (2 * k + 1)) < 0) : ∀ j, j < 2 * (k + 1) → 0 ≤ hv (ch s j) := by
  intro j hj
  rcases Nat.lt_or_ge j (2 * k) with h1 | h1
  · exact h j h1
  · rcases Nat.lt_or_ge j (2 * k + 1) with h2 | h2
    · obtain rfl : j = 2 * k := by omega
      omega
    · obtain rfl : j = 2 * k + 1 := by omega
      omega

set_option maxHeartbeats 2000000 in
theorem specUnhex_any (s : ByteArray) (w : World) (hs : s.size ≤ 1048576) :
    Calls Try.prog 66 #[.string s] w fun e w' => ∃ p c, e = .returned (.tuple #[.slice p (unN s) c, .bool (goodB s)]) ∧ Own 5 w' w.heap.size w'.heap.size (.slice p (unN s) c) (unN s) (unL s) ∧ Below w.heap.size w w' := by
  obtain ⟨i0, hi, hz0, hz1, hz2⟩ := info_parts infoByte
  go_enter Try.func66, Try.ntmps66
  go_wp2
  go_loopw [4, 5] (fun v i wr => ∃ k : Nat, 2 * k ≤ s.size ∧ i = .int .i64 (2 * k) ∧ Hid (∀ j, j < 2 * k → 0 ≤ hv (ch s j)) ∧ wr.ownsRow w.heap.size 5 1 v k ((outL s k).map (Value.int .u8)) ∧ Below w.heap.size w wr)
    (fun _ i _ => s.size - (intOf i).toNat)
  case atStart => exact ⟨0, Nat.zero_le _, rfl, fun j hj => by omega, World.ownsRow_made w #[] 0 (Nat.le_refl _) (by unfold maxLen; omega) rfl, (Below.refl _ _).alloc (Nat.le_refl _) _⟩
  case round =>
    obtain ⟨k, hk, rfl, hgood, hown, hbel⟩ := hrel
    have hsz := hbel.size
    by_cases hlt : 2 * k + 1 < s.size
    · have i1 : (0 : Int) ≤ 2 * (k : Int) := by omega
      have i2 : 2 * (k : Int) < (s.size : Int) := by omega
      have i3 : (0 : Int) ≤ 2 * (k : Int) + 1 := by omega
      have i4 : 2 * (k : Int) + 1 < (s.size : Int) := by omega
      have ex := ch_int s (2 * k) (2 * (k : Int)) (by omega)
      have ey := ch_int s (2 * k + 1) (2 * (k : Int) + 1) (by omega)
      have l1 := hv_le (ch s (2 * k))
      have l2 := hv_le (ch s (2 * k + 1))
      by_cases hX : hv (ch s (2 * k)) < 0
      · have hB : Hid (goodB s = false) := good_not (j := 2 * k) (by omega) hX
        go_wp2
        go_quiet ((go_at_call 86; exact Calls.quiet_of_same (l1Sign_ch _ _ _)))
        go_wp2
        go_ret2
        refine bad_end hB.out (World.ownsRow_made _ #[] 0 ?_ (by unfold maxLen; omega) rfl) ?_
        · exact hsz
        · exact (below_drewN hbel _).alloc hsz _
      · by_cases hY : hv (ch s (2 * k + 1)) < 0
        · have hB : Hid (goodB s = false) := good_not (j := 2 * k + 1) (by omega) hY
          go_wp2
          go_quiet ((go_at_call 86; exact Calls.quiet_of_same (l1Sign_ch _ _ _)))
          go_wp2
          go_ret2
          refine bad_end hB.out (World.ownsRow_made _ #[] 0 ?_ (by unfold maxLen; omega) rfl) ?_
          · exact hsz
          · exact (below_drewN hbel _).alloc hsz _
        · have hG : Hid (∀ j, j < 2 * (k + 1) → 0 ≤ hv (ch s j)) := good_more hgood hX hY
          have HN : Hid (outL s k ++ [16 * hv (ch s (2 * k)) + hv (ch s (2 * k + 1))] = outL s (k + 1)) := outL_step s k
          go_wp2
          go_quiet ((go_at_call 86; exact Calls.quiet_of_same (l1Sign_ch _ _ _)))
          go_wp2_with (at_builtin; refine list_push hi hz0 hz1 hz2 (.tmp 32) (.tmp 38) 22 Try.underlying22 _ hown (by omega) hsz (by rfl) (by rfl) (by rfl) (by rfl) ?_; intro g cap w1 ho1 hb1; rw [HN.out] at ho1)
          go_wp2
          go_roundw
          case rel => exact ⟨k + 1, by omega, by go_num, hG, ho1, (below_drewN hbel _).trans hb1⟩
          case measure => simp [intOf]; omega
    · by_cases h2 : s.size % 2 = 0
      · have hd : ((s.size : Int) % 2 != 0) = false := by simp; omega
        have hE : Hid (∀ j, j < s.size → 0 ≤ hv (ch s j)) := fun j hj => hgood.out j (by omega)
        have h2' : Hid (s.size % 2 = 0) := h2
        clear hgood h2
        go_wp2
        go_ret2
        exact good_end h2'.out (by have := h2'.out; omega) hE.out hown hbel
      · have hd : ((s.size : Int) % 2 != 0) = true := by simp; omega
        have hB : Hid (goodB s = false) := good_odd h2
        clear hgood h2
        go_wp2
        go_ret2
        exact bad_end hB.out (World.ownsRow_made _ #[] 0 hsz (by unfold maxLen; omega) rfl) (hbel.alloc hsz _)

theorem or16 (x y : Int) (hx : 0 ≤ x ∧ x < 16) (hy : 0 ≤ y ∧ y < 16) : bits BinOp.or IntKind.u8 (x * 16) y = 16 * x + y := by
  have all : ∀ a b : Fin 16, bits BinOp.or IntKind.u8 (((a.val : Nat) : Int) * 16) ((b.val : Nat) : Int) = 16 * ((a.val : Nat) : Int) + ((b.val : Nat) : Int) := by decide +kernel
  have := all ⟨x.toNat, by omega⟩ ⟨y.toNat, by omega⟩
  simp only [Int.toNat_of_nonneg hx.1, Int.toNat_of_nonneg hy.1] at this
  exact this

/-- The rune that comes next, as the signs see it. -/
theorem rune_at (s : ByteArray) (pos : Nat) (h : pos < s.size) : ∃ R wd : Nat, Utf8.decode s pos = (R, wd) ∧ (0 ≤ hv R → (R : Int) = ch s pos ∧ wd = 1) ∧ (hv R < 0 → hv (ch s pos) < 0) := by
  have e := ch_at s pos h
  by_cases ha : (s[pos]'h).toNat < 128
  · refine ⟨_, _, decode_ascii s pos h ha, fun _ => ⟨e, rfl⟩, fun hl => ?_⟩
    rw [← e]; exact hl
  · have hh := decode_high s pos h (by omega)
    refine ⟨(Utf8.decode s pos).1, (Utf8.decode s pos).2, rfl, fun hl => ?_, fun _ => ?_⟩
    · rw [hv_high _ (by omega)] at hl; omega
    · rw [hv_high _ (by omega)]; omega

theorem good_one {s : ByteArray} {pos : Nat} (h : ∀ j, j < pos → 0 ≤ hv (ch s j)) (hx : 0 ≤ hv (ch s pos)) : ∀ j, j < pos + 1 → 0 ≤ hv (ch s j) := by
  intro j hj
  rcases Nat.lt_or_ge j pos with h1 | h1
  · exact h j h1
  · obtain rfl : j = pos := by omega
    exact hx

set_option maxHeartbeats 2000000 in
theorem implUnhex_even (s : ByteArray) (w : World) (hs : s.size ≤ 1048576) (h2 : s.size % 2 = 0) :
    Calls Try.prog 68 #[.string s] w fun e w' => ∃ p c, e = .returned (.tuple #[.slice p (unN s) c, .bool (goodB s)]) ∧ Own 5 w' w.heap.size w'.heap.size (.slice p (unN s) c) (unN s) (unL s) ∧ Below w.heap.size w w' := by
  obtain ⟨i0, hi, hz0, hz1, hz2⟩ := info_parts infoByte
  have hd : ((s.size : Int) % 2 != 0) = false := by simp; omega
  have h2' : Hid (s.size % 2 = 0) := h2
  clear h2
  go_enter Try.func68, Try.ntmps68
  go_wp2_with (at_make; refine wpList_make_own _ rfl _ _ 22 rfl w.heap.size 5 i0 (.int .u8 0) 1 Try.underlying22 hi hz0 hz1 _ _ _ (s.size / 2) rfl rfl ?b1 ?b2 ?b3 ?b4 ?_)
  case b1 => omega
  case b2 => rw [hz2]; omega
  case b3 => unfold maxLen; omega
  case b4 => exact Nat.le_refl _
  intro w1 hown hgrow
  have hbel : Below w.heap.size w w1 := (Below.refl _ _).grown hgrow (Nat.le_refl _) (fun _ h => by cases h)
  have hsz1 := hbel.size
  clear hgrow
  go_wp2
  go_loopw [4, 5] (fun v q wr => ∃ (pos : Nat) (H : Int), pos ≤ s.size ∧ q = .int .u8 H ∧ Hid (∀ j, j < pos → 0 ≤ hv (ch s j)) ∧ Hid (pos % 2 = 1 → H = hv (ch s (pos - 1))) ∧ wr.heap[w1.heap.size]? = some (.stringIter s pos) ∧
      wr.ownsRow w.heap.size 5 1 v (pos / 2) ((outL s (pos / 2)).map (Value.int .u8)) ∧ Below w.heap.size w wr)
    (fun _ _ wr => s.size - wr.iterPos w1.heap.size)
  case atStart => exact ⟨0, 0, Nat.zero_le _, rfl, fun j hj => by omega, fun h => by omega, World.iter_heap w1 s 0, hown.alloc (.stringIter s 0), hbel.alloc hsz1 _⟩
  case round =>
    clear hown hbel
    obtain ⟨pos, H, hpos, rfl, hgood, hH, hit, hown, hbel⟩ := hrel
    have hsz := hbel.size
    by_cases hlt : pos < s.size
    · have hnx : ∀ ty, (Instr.next (.pointer (some ⟨w1.heap.size, 0, none⟩)) true ty).run Try.prog wr = _ := fun ty => Lib.run_next_any_at wr w1.heap.size s pos ty hit hlt
      obtain ⟨R, wd, hdec, hr1, hr2⟩ := rune_at s pos hlt
      simp only [hdec] at hnx
      clear hdec
      have hown2 := owns_iter hown hit (pos + wd)
      have hit2 := Lib.iterAt_heap wr w1.heap.size s pos (pos + wd) hit
      have hbel2 := Lib.below_iterAt hbel hsz1 s (pos + wd)
      by_cases hR : hv (R : Int) < 0
      · have hB : Hid (goodB s = false) := good_not (j := pos) hlt (hr2 hR)
        clear hr1 hr2 hgood hH
        go_wp2_with (go_at_call 88; refine (hexHalf_bad _ _ hR).mono ?_; rintro e w' ⟨rfl, rfl⟩)
        go_ret2
        exact bad_end hB.out (World.ownsRow_nil _ _ _ _) hbel2
      · have hR0 : 0 ≤ hv (R : Int) := by omega
        obtain ⟨hRc, rfl⟩ := hr1 hR0
        have hl := hv_le (R : Int)
        have hG : Hid (∀ j, j < pos + 1 → 0 ≤ hv (ch s j)) := good_one hgood (by rw [← hRc]; exact hR0)
        have hRc' : Hid ((R : Int) = ch s pos) := hRc
        clear hr1 hr2 hRc hR
        by_cases hp : pos % 2 = 0
        · have hd2 : ((pos : Int) % 2 == 0) = true := by simp; omega
          have hp' : Hid (pos % 2 = 0) := hp
          clear hp hgood hH
          go_wp2_with (go_at_call 88; refine (hexHalf_good _ _ hR0).mono ?_; rintro e w' ⟨rfl, rfl⟩)
          go_roundw
          case rel => exact ⟨pos + 1, hv (R : Int), by omega, rfl, hG, fun _ => by rw [hRc'.out]; rfl, hit2, by have := hp'.out; rw [show (pos + 1) / 2 = pos / 2 by omega]; exact hown2, hbel2⟩
          case measure => rw [World.iterPos, World.iterPos, hit2, hit]; simp; omega
        · have hp1 : pos % 2 = 1 := by omega
          have hd2 : ((pos : Int) % 2 == 0) = false := by simp; omega
          have hHe := hH.out hp1
          have hHl := hv_le (ch s (pos - 1))
          have hH0 := hgood.out (pos - 1) (by omega)
          rw [← hHe] at hHl hH0
          have hH1 : H < 16 := hHl.2
          have hor := or16 H (hv (R : Int)) ⟨hH0, hH1⟩ ⟨hR0, hl.2⟩
          have HN : Hid (outL s (pos / 2) ++ [bits BinOp.or IntKind.u8 (H * 16) (hv (R : Int))] = outL s (pos / 2 + 1)) := by
            have := outL_step s (pos / 2)
            rw [show 2 * (pos / 2) + 1 = pos by omega, show 2 * (pos / 2) = pos - 1 by omega, ← hHe, ← hRc'.out, ← hor] at this
            exact this
          have hq : Hid ((pos + 1) / 2 = pos / 2 + 1 ∧ (pos + 1) % 2 = 0) := by show (pos + 1) / 2 = pos / 2 + 1 ∧ (pos + 1) % 2 = 0; omega
          have hsz2 : w.heap.size ≤ (wr.iterAt w1.heap.size s (pos + 1)).heap.size := by rw [Lib.iterAt_size]; omega
          have hno := iter_not_own hown2 hit2
          have hlt2 : w1.heap.size < (wr.iterAt w1.heap.size s (pos + 1)).heap.size := (Array.getElem?_eq_some_iff.1 hit2).1
          clear hor hHe hHl hH hgood hp hp1
          go_wp2_with (first | (go_at_call 88; refine (hexHalf_good _ _ hR0).mono ?_; rintro e w' ⟨rfl, rfl⟩) | (at_builtin; refine list_pushK hi hz0 hz1 hz2 (.tmp 35) (.tmp 40) 22 Try.underlying22 _ hown2 (by omega) hsz2 (by rfl) (by rfl) (by rfl) (by rfl) ?_; intro g cap w2 ho1 hb1 hkk; rw [HN.out] at ho1))
          have hit3 : w2.heap[w1.heap.size]? = some (.stringIter s (pos + 1)) := (hkk _ hlt2 hno).trans hit2
          go_roundw
          case rel => exact ⟨pos + 1, H, by omega, rfl, hG, fun h => by have := hq.out.2; omega, hit3, by rw [hq.out.1]; exact ho1, hbel2.trans hb1⟩
          case measure => rw [World.iterPos, World.iterPos, hit3, hit]; simp; omega
    · have hnx : ∀ ty, (Instr.next (.pointer (some ⟨w1.heap.size, 0, none⟩)) true ty).run Try.prog wr = _ := fun ty => Lib.run_next_end_at wr w1.heap.size s pos ty hit hlt
      have hps : Hid (pos = s.size) := by show pos = s.size; omega
      have hE : Hid (∀ j, j < s.size → 0 ≤ hv (ch s j)) := fun j hj => hgood.out j (by omega)
      clear hgood hH
      go_wp2
      go_ret2
      exact good_end h2'.out (by have := hps.out; omega) hE.out hown hbel

theorem implUnhex_any (s : ByteArray) (w : World) (hs : s.size ≤ 1048576) :
    Calls Try.prog 68 #[.string s] w fun e w' => ∃ p c, e = .returned (.tuple #[.slice p (unN s) c, .bool (goodB s)]) ∧ Own 5 w' w.heap.size w'.heap.size (.slice p (unN s) c) (unN s) (unL s) ∧ Below w.heap.size w w' := by
  by_cases h2 : s.size % 2 = 0
  · exact implUnhex_even s w hs h2
  · have hd : ((s.size : Int) % 2 != 0) = true := by simp; omega
    have hB : Hid (goodB s = false) := good_odd h2
    clear h2
    go_enter Try.func68, Try.ntmps68
    go_wp2
    go_ret2
    exact bad_end hB.out (World.ownsRow_nil _ _ _ _) (Below.refl _ _)

end Go.Proofs.Ytkdbcplcpcdnbaa

namespace Go.Proofs.Ytkdbcplcpcdnbaa
open Go.RowKit
set_option maxRecDepth 100000

/-- A route: sixteen signs of two each. -/
def rtB (s : ByteArray) : Bool := goodB s && decide (unN s = 8)

/-- What a right item is. -/
def itB (s : ByteArray) (t d : Int) (n : Nat) : Bool := rtB s && decide (0 ≤ t ∧ t ≤ 9) && decide (0 ≤ d ∧ d ≤ 100000) && decide (n ≤ 1560)

theorem in_any (x lo hi : Int) (X : World) : Calls Try.prog 59 #[.int .i64 x, .int .i64 lo, .int .i64 hi] X fun e w' => e = .returned (.bool (decide (lo ≤ x ∧ x ≤ hi))) ∧ w' = X := by
  by_cases h1 : lo ≤ x
  · by_cases h2 : x ≤ hi
    · rw [decide_eq_true ⟨h1, h2⟩]
      go_enter Try.func59, Try.ntmps59
      go_wp2_with (fail)
      go_ret
      exact ⟨rfl, rfl⟩
    · rw [decide_eq_false (fun k => h2 k.2)]
      go_enter Try.func59, Try.ntmps59
      go_wp2_with (fail)
      go_ret
      exact ⟨rfl, rfl⟩
  · rw [decide_eq_false (fun k => h1 k.1)]
    go_enter Try.func59, Try.ntmps59
    go_wp2_with (fail)
    go_ret
    exact ⟨rfl, rfl⟩

theorem dueOk_any (x : Int) (X : World) : Calls Try.prog 57 #[.int .i64 x] X fun e w' => e = .returned (.bool (decide (0 ≤ x ∧ x ≤ 100000))) ∧ w' = X := by
  by_cases h1 : 0 ≤ x
  · by_cases h2 : x ≤ 100000
    · rw [decide_eq_true ⟨h1, h2⟩]
      go_enter Try.func57, Try.ntmps57
      go_wp2_with (fail)
      go_ret
      exact ⟨rfl, rfl⟩
    · rw [decide_eq_false (fun k => h2 k.2)]
      go_enter Try.func57, Try.ntmps57
      go_wp2_with (fail)
      go_ret
      exact ⟨rfl, rfl⟩
  · rw [decide_eq_false (fun k => h1 k.1)]
    go_enter Try.func57, Try.ntmps57
    go_wp2_with (fail)
    go_ret
    exact ⟨rfl, rfl⟩

theorem routeOk_any (s : ByteArray) (w : World) (hs : s.size ≤ 1048576) : Calls Try.prog 56 #[.string s] w fun e w' => e = .returned (.bool (rtB s)) ∧ Below w.heap.size w w' := by
  have C := implUnhex_any s w hs
  obtain ⟨R, hR⟩ : ∃ R : Bool, R = rtB s := ⟨_, rfl⟩
  rw [← hR]
  replace hR : Hid (R = rtB s) := hR
  have hu : unN s ≤ 1048576 := by unfold unN; split <;> omega
  cases hg : goodB s
  · rw [hg] at C
    have hr : R = false := by rw [hR.out, rtB, hg]; rfl
    subst hr
    clear hR hg
    generalize unN s = m at C hu
    generalize unL s = ys at C
    go_enter Try.func56, Try.ntmps56
    go_wp2_with (fail)
    refine C.mono ?_
    rintro e w1 ⟨p, c, rfl, r1, b1⟩
    clear r1
    go_wp2_with (fail)
    go_ret
    exact ⟨rfl, b1⟩
  · rw [hg] at C
    have hr : R = decide (unN s = 8) := by rw [hR.out, rtB, hg]; rfl
    clear hR hg
    generalize unN s = m at C hu hr
    generalize unL s = ys at C
    by_cases h8 : m = 8
    · subst h8
      have hr' : R = true := by rw [hr]; rfl
      subst hr'
      clear hr
      go_enter Try.func56, Try.ntmps56
      go_wp2_with (fail)
      refine C.mono ?_
      rintro e w1 ⟨p, c, rfl, r1, b1⟩
      clear r1
      go_wp2_with (fail)
      go_ret
      exact ⟨rfl, b1⟩
    · have hr' : R = false := by rw [hr]; exact decide_eq_false h8
      subst hr'
      have h8' : ((m : Int) == 8) = false := by simp; omega
      clear hr h8
      go_enter Try.func56, Try.ntmps56
      go_wp2_with (fail)
      refine C.mono ?_
      rintro e w1 ⟨p, c, rfl, r1, b1⟩
      clear r1
      go_wp2_with (fail)
      go_ret
      exact ⟨rfl, b1⟩

theorem l13Route_any (s : ByteArray) (w : World) (hs : s.size ≤ 1048576) : Calls Try.prog 58 #[.string s] w fun e w' => e = .returned (.bool (rtB s)) ∧ Below w.heap.size w w' := by
  have C := specUnhex_any s w hs
  obtain ⟨R, hR⟩ : ∃ R : Bool, R = rtB s := ⟨_, rfl⟩
  rw [← hR]
  replace hR : Hid (R = rtB s) := hR
  have hu : unN s ≤ 1048576 := by unfold unN; split <;> omega
  cases hg : goodB s
  · rw [hg] at C
    have hr : R = false := by rw [hR.out, rtB, hg]; rfl
    subst hr
    clear hR hg
    generalize unN s = m at C hu
    generalize unL s = ys at C
    go_enter Try.func58, Try.ntmps58
    go_wp2_with (fail)
    refine C.mono ?_
    rintro e w1 ⟨p, c, rfl, r1, b1⟩
    clear r1
    go_wp2_with (fail)
    go_ret
    exact ⟨rfl, b1⟩
  · rw [hg] at C
    have hr : R = decide (unN s = 8) := by rw [hR.out, rtB, hg]; rfl
    clear hR hg
    generalize unN s = m at C hu hr
    generalize unL s = ys at C
    by_cases h8 : m = 8
    · subst h8
      have hr' : R = true := by rw [hr]; rfl
      subst hr'
      clear hr
      go_enter Try.func58, Try.ntmps58
      go_wp2_with (fail)
      refine C.mono ?_
      rintro e w1 ⟨p, c, rfl, r1, b1⟩
      clear r1
      go_wp2_with (fail)
      go_ret
      exact ⟨rfl, b1⟩
    · have hr' : R = false := by rw [hr]; exact decide_eq_false h8
      subst hr'
      have h8' : ((m : Int) == 8) = false := by simp; omega
      clear hr h8
      go_enter Try.func58, Try.ntmps58
      go_wp2_with (fail)
      refine C.mono ?_
      rintro e w1 ⟨p, c, rfl, r1, b1⟩
      clear r1
      go_wp2_with (fail)
      go_ret
      exact ⟨rfl, b1⟩

set_option maxHeartbeats 4000000 in
theorem implItemOk_any (s : ByteArray) (t d : Int) (p : Option Addr) (n c : Nat) (w : World) (hs : s.size ≤ 1048576) :
    Calls Try.prog 25 #[.agg #[.string s, .int .i64 t, .int .i64 d, .slice p n c]] w fun z w' => z = .returned (.bool (itB s t d n)) ∧ Below w.heap.size w w' := by
  have C := fun X => routeOk_any s X hs
  have D := fun X => dueOk_any d X
  obtain ⟨R, hR⟩ : ∃ R : Bool, R = itB s t d n := ⟨_, rfl⟩
  rw [← hR]
  replace hR : Hid (R = itB s t d n) := hR
  unfold itB at hR
  generalize rtB s = R0 at C hR
  generalize decide (0 ≤ d ∧ d ≤ 100000) = R1 at D hR
  have hM : ∀ o, Cells (w.alloc (.cells #[.string s, .int .i64 t, .int .i64 d, .slice p n c] o)) w.heap.size #[.string s, .int .i64 t, .int .i64 d, .slice p n c] := fun o => Cells.made _ _ _
  go_enter Try.func25, Try.ntmps25
  go_wp2_with (fail)
  refine (C _).mono ?_
  rintro z w1 ⟨rfl, b1⟩
  have k1 := made_below _ _ b1
  have C1 := (hM _).on b1
  clear b1 hM
  have l1 : w1.cell? ⟨w.heap.size, 1, none⟩ = some (.int .i64 t) := (C1.2 1).1
  have l2 : w1.cell? ⟨w.heap.size, 2, none⟩ = some (.int .i64 d) := (C1.2 2).1
  have l3 : w1.cell? ⟨w.heap.size, 3, none⟩ = some (.slice p n c) := (C1.2 3).1
  clear C1
  cases R0
  · have hr : R = false := by rw [hR.out]; rfl
    subst hr
    clear hR
    go_wp2_with (fail)
    go_ret
    exact ⟨rfl, k1⟩
  · by_cases h1 : 0 ≤ t
    · by_cases h2 : t ≤ 9
      · rw [decide_eq_true (show 0 ≤ t ∧ t ≤ 9 from ⟨h1, h2⟩)] at hR
        go_wp2_with (fail)
        refine (D _).mono ?_
        rintro z w2 ⟨rfl, rfl⟩
        cases R1
        · have hr : R = false := by rw [hR.out]; rfl
          subst hr
          clear hR
          go_wp2_with (fail)
          go_ret
          exact ⟨rfl, k1⟩
        · by_cases h3 : (n : Int) ≤ 1560
          · have hr : R = true := by rw [hR.out, decide_eq_true (show n ≤ 1560 by omega)]; rfl
            subst hr
            clear hR
            go_wp2_with (fail)
            go_ret
            exact ⟨rfl, k1⟩
          · have hr : R = false := by rw [hR.out, decide_eq_false (show ¬ n ≤ 1560 by omega)]; rfl
            subst hr
            clear hR
            go_wp2_with (fail)
            go_ret
            exact ⟨by rw [decide_eq_false (Int.not_le.2 h3)]; rfl, k1⟩
      · have hr : R = false := by rw [hR.out, decide_eq_false (show ¬ (0 ≤ t ∧ t ≤ 9) from fun k => h2 k.2)]; rfl
        subst hr
        clear hR
        go_wp2_with (fail)
        go_ret
        exact ⟨rfl, k1⟩
    · have hr : R = false := by rw [hR.out, decide_eq_false (show ¬ (0 ≤ t ∧ t ≤ 9) from fun k => h1 k.1)]; rfl
      subst hr
      clear hR
      go_wp2_with (fail)
      go_ret
      exact ⟨rfl, k1⟩

set_option maxHeartbeats 4000000 in
theorem specItemOk_any (s : ByteArray) (t d : Int) (p : Option Addr) (n c : Nat) (w : World) (hs : s.size ≤ 1048576) :
    Calls Try.prog 26 #[.agg #[.string s, .int .i64 t, .int .i64 d, .slice p n c]] w fun z w' => z = .returned (.bool (itB s t d n)) ∧ Below w.heap.size w w' := by
  have C := fun X => l13Route_any s X hs
  have D := fun X => in_any d 0 100000 X
  have T := fun X => in_any t 0 9 X
  obtain ⟨R, hR⟩ : ∃ R : Bool, R = itB s t d n := ⟨_, rfl⟩
  rw [← hR]
  replace hR : Hid (R = itB s t d n) := hR
  unfold itB at hR
  generalize rtB s = R0 at C hR
  generalize decide (0 ≤ d ∧ d ≤ 100000) = R1 at D hR
  generalize decide (0 ≤ t ∧ t ≤ 9) = R2 at T hR
  have hM : ∀ o, Cells (w.alloc (.cells #[.string s, .int .i64 t, .int .i64 d, .slice p n c] o)) w.heap.size #[.string s, .int .i64 t, .int .i64 d, .slice p n c] := fun o => Cells.made _ _ _
  go_enter Try.func26, Try.ntmps26
  go_wp2_with (fail)
  refine (C _).mono ?_
  rintro z w1 ⟨rfl, b1⟩
  have k1 := made_below _ _ b1
  have C1 := (hM _).on b1
  clear b1 hM
  have l1 : w1.cell? ⟨w.heap.size, 1, none⟩ = some (.int .i64 t) := (C1.2 1).1
  have l2 : w1.cell? ⟨w.heap.size, 2, none⟩ = some (.int .i64 d) := (C1.2 2).1
  have l3 : w1.cell? ⟨w.heap.size, 3, none⟩ = some (.slice p n c) := (C1.2 3).1
  clear C1
  cases R0
  · have hr : R = false := by rw [hR.out]; rfl
    subst hr
    clear hR
    go_wp2_with (fail)
    go_ret
    exact ⟨rfl, k1⟩
  · go_wp2_with (fail)
    refine (T _).mono ?_
    rintro z w2 ⟨rfl, rfl⟩
    cases R2
    · have hr : R = false := by rw [hR.out]; rfl
      subst hr
      clear hR
      go_wp2_with (fail)
      go_ret
      exact ⟨rfl, k1⟩
    · go_wp2_with (fail)
      refine (D _).mono ?_
      rintro z w2 ⟨rfl, rfl⟩
      cases R1
      · have hr : R = false := by rw [hR.out]; rfl
        subst hr
        clear hR
        go_wp2_with (fail)
        go_ret
        exact ⟨rfl, k1⟩
      · by_cases h3 : (n : Int) ≤ 1560
        · have hr : R = true := by rw [hR.out, decide_eq_true (show n ≤ 1560 by omega)]; rfl
          subst hr
          clear hR
          go_wp2_with (fail)
          go_ret
          exact ⟨rfl, k1⟩
        · have hr : R = false := by rw [hR.out, decide_eq_false (show ¬ n ≤ 1560 by omega)]; rfl
          subst hr
          clear hR
          go_wp2_with (fail)
          go_ret
          exact ⟨by rw [decide_eq_false (Int.not_le.2 h3)]; rfl, k1⟩

end Go.Proofs.Ytkdbcplcpcdnbaa

namespace Go.Proofs.Ytkdbcplcpcdnbaa
open Go.RowKit
set_option maxRecDepth 100000

/-- Two of one route and topic. -/
def clash (x y : ItA) : Prop := x.s = y.s ∧ x.t = y.t ∧ 0 < y.t
def okAt (its : List ItA) (i : Nat) : Prop :=
  itB (its.getD i default).s (its.getD i default).t (its.getD i default).d (its.getD i default).n = true ∧ cntI (its.getD i default).s its ≤ 4 ∧ ∀ k, k < i → ¬ clash (its.getD k default) (its.getD i default)
/-- What a right queue is. -/
def QOk (its : List ItA) : Prop := its.length ≤ 10 ∧ ∀ i, i < its.length → okAt its i
noncomputable def qB (its : List ItA) : Bool := @decide (QOk its) (Classical.propDecidable _)
theorem qB_true {its : List ItA} (h : QOk its) : qB its = true := by unfold qB; exact @decide_eq_true _ (Classical.propDecidable _) h
theorem qB_false {its : List ItA} (h : ¬ QOk its) : qB its = false := by unfold qB; exact @decide_eq_false _ (Classical.propDecidable _) h

set_option maxHeartbeats 8000000 in
theorem specQueueOk_any (p : Option Addr) (n c : Nat) (its : List ItA) (w : World) (hn : n ≤ 1048576) (hl : its.length = n) (h : ItemsIn w p n its) (hs : ∀ x ∈ its, x.s.size ≤ 1048576) :
    Calls Try.prog 24 #[.slice p n c] w fun e w' => e = .returned (.bool (qB its)) ∧ Below w.heap.size w w' := by
  obtain ⟨R, hR⟩ : ∃ R : Bool, R = qB its := ⟨_, rfl⟩
  rw [← hR]
  have hno : Hid (∀ i, i < n → ¬ okAt its i → R = false) := fun i hi hx => by rw [hR]; exact qB_false fun q => hx (q.2 i (by omega))
  have hall : Hid ((∀ i, i < n → okAt its i) → R = decide (n ≤ 10)) := fun ha => by
    rw [hR]
    by_cases e : n ≤ 10
    · rw [decide_eq_true e]; exact qB_true ⟨by omega, fun i hi => ha i (by omega)⟩
    · rw [decide_eq_false e]; exact qB_false fun q => e (by have := q.1; omega)
  clear hR
  go_enter Try.func24, Try.ntmps24
  go_wp2_with (fail)
  go_loopw [3] (fun i wr => ∃ k : Nat, k ≤ n ∧ i = .int .i64 k ∧ Hid (∀ j, j < k → okAt its j) ∧ Below w.heap.size w wr) (fun i _ => n - (intOf i).toNat)
  case atStart => exact ⟨0, Nat.zero_le _, rfl, fun j hj => absurd hj (Nat.not_lt_zero _), Below.refl _ _⟩
  case round =>
    obtain ⟨k, hk, rfl, hdone, hbel⟩ := hrel
    by_cases hlt : k < n
    · have hI := itemsIn_on h hbel
      obtain ⟨b, o, rfl, hc⟩ := hI (by omega)
      obtain ⟨x, hx⟩ : ∃ x, its.getD k default = x := ⟨_, rfl⟩
      obtain ⟨l0, l1, l2, l3⟩ := ItemsIn.at hc hlt hx
      have hsx := hs x (hx ▸ getD_mem (by omega))
      have hok : Hid (okAt its k ↔ itB x.s x.t x.d x.n = true ∧ cntI x.s its ≤ 4 ∧ ∀ j, j < k → ¬ clash (its.getD j default) x) := by rw [Hid, okAt, hx]
      have hle := cntI_le x.s its
      obtain ⟨s, t, d, xp, xn, xc, xs⟩ := x
      dsimp only at l0 l1 l2 l3 hsx hok hle
      have C := specItemOk_any s t d xp xn xc wr hsx
      cases hb : itB s t d xn
      · rw [hb] at C
        have hr := hno.out k hlt (fun q => by have := (hok.out.1 q).1; rw [hb] at this; cases this)
        subst hr
        clear hno hall hok hdone hc hI hx hb
        go_wp2_with (fail)
        refine C.mono ?_
        rintro z w2 ⟨rfl, b2⟩
        have hbel2 := below_on hbel b2
        clear b2 hbel C
        go_wp2_with (fail)
        go_ret
        exact ⟨rfl, hbel2⟩
      · rw [hb] at C
        go_wp2_with (fail)
        refine C.mono ?_
        rintro z w2 ⟨rfl, b2⟩
        have hbel2 := below_on hbel b2
        have hI2 := itemsIn_on h hbel2
        obtain ⟨b', o', hpe, hc2⟩ := hI2 (by omega)
        simp only [Option.some.injEq, Addr.mk.injEq, and_true] at hpe
        obtain ⟨rfl, rfl⟩ := hpe
        obtain ⟨m0, m1, m2, m3⟩ := ItemsIn.at hc2 hlt hx
        dsimp only at m0 m1 m2 m3
        have C2 := specOf_any (some ⟨b, o, none⟩) n c its s w2 hn hl hI2
        obtain ⟨cn, hcn⟩ : ∃ cn, cn = cntI s its := ⟨_, rfl⟩
        rw [← hcn] at C2
        replace hcn : Hid (cn = cntI s its) := hcn
        have hcl : cn ≤ 1048576 := by have := hcn.out; omega
        clear b2 hbel C hI hc l0 l1 l2 l3 hle
        by_cases h4 : (cn : Int) ≤ 4
        · go_wp2_with (fail)
          refine C2.mono ?_
          rintro z w3 ⟨rfl, rfl⟩
          clear C2
          go_wp2_with (fail)
          go_loopw [4] (fun i wr => ∃ j : Nat, j ≤ k ∧ i = .int .i64 j ∧ Hid (∀ l, l < j → ¬ clash (its.getD l default) ⟨s, t, d, xp, xn, xc, xs⟩) ∧ Below w.heap.size w wr) (fun i _ => k - (intOf i).toNat)
          case atStart => exact ⟨0, Nat.zero_le _, rfl, fun j hj => absurd hj (Nat.not_lt_zero _), hbel2⟩
          case round =>
            obtain ⟨j, hj, rfl, hcl2, hbelj⟩ := hrel
            obtain ⟨b', o', hpe, hcj⟩ := itemsIn_on h hbelj (by omega)
            simp only [Option.some.injEq, Addr.mk.injEq, and_true] at hpe
            obtain ⟨rfl, rfl⟩ := hpe
            by_cases hjk : j < k
            · obtain ⟨y, hy⟩ : ∃ y, its.getD j default = y := ⟨_, rfl⟩
              obtain ⟨n0, n1, n2, n3⟩ := ItemsIn.at hcj (show j < n by omega) hy
              obtain ⟨l0, l1, l2, l3⟩ := ItemsIn.at hcj hlt hx
              dsimp only at l0 l1 l2 l3
              have hmore : ¬ clash y ⟨s, t, d, xp, xn, xc, xs⟩ → Hid (∀ l, l < j + 1 → ¬ clash (its.getD l default) ⟨s, t, d, xp, xn, xc, xs⟩) := fun q l hl1 => by
                rcases Nat.lt_succ_iff_lt_or_eq.1 hl1 with e | e
                · exact hcl2.out l e
                · rw [e, hy]; exact q
              have hend : Hid (clash y ⟨s, t, d, xp, xn, xc, xs⟩ → R = false) := fun q => hno.out k hlt fun ok => (hok.out.1 ok).2.2 j hjk (by rw [hy]; exact q)
              obtain ⟨s', t', d', yp, yn, yc, ys⟩ := y
              dsimp only at n0 n1 n2 n3
              have hcl3 : clash ⟨s', t', d', yp, yn, yc, ys⟩ ⟨s, t, d, xp, xn, xc, xs⟩ ↔ s' = s ∧ t' = t ∧ 0 < t := Iff.rfl
              rw [hcl3] at hmore
              replace hend : Hid (s' = s ∧ t' = t ∧ 0 < t → R = false) := fun q => hend.out (hcl3.2 q)
              clear hcj hcl2 hcl3 hx hy hno hall hdone hI2 hc2 h hok m0 m1 m2 m3 hbel2
              by_cases e1 : s' = s
              · by_cases e2 : t' = t
                · by_cases e3 : 0 < t
                  · have hr := hend.out ⟨e1, e2, e3⟩
                    subst hr
                    subst e1 e2
                    clear hend hmore
                    go_wp2_with (fail)
                    go_quiet (fail)
                    go_wp2_with (fail)
                    go_ret
                    exact ⟨rfl, below_drewN hbelj _⟩
                  · replace hmore := hmore (fun q => e3 q.2.2)
                    subst e1 e2
                    clear hend
                    go_wp2_with (fail)
                    go_quiet (fail)
                    go_wp2_with (fail)
                    go_roundw
                    case rel => exact ⟨j + 1, by omega, by go_num, hmore, below_drewN hbelj _⟩
                    case measure => simp [intOf]; omega
                · replace hmore := hmore (fun q => e2 q.2.1)
                  subst e1
                  have e2' : (t' == t) = false := by simp [e2]
                  clear hend e2
                  go_wp2_with (fail)
                  go_quiet (fail)
                  go_wp2_with (fail)
                  go_roundw
                  case rel => exact ⟨j + 1, by omega, by go_num, hmore, below_drewN hbelj _⟩
                  case measure => simp [intOf]; omega
              · replace hmore := hmore (fun q => e1 q.1)
                have e1' := str_ne e1
                clear hend e1
                go_wp2_with (fail)
                go_quiet (fail)
                go_wp2_with (fail)
                go_roundw
                case rel => exact ⟨j + 1, by omega, by go_num, hmore, below_drewN hbelj _⟩
                case measure => simp [intOf]; omega
            · have hjk2 : j = k := by omega
              subst hjk2
              have hokk : Hid (∀ l, l < j + 1 → okAt its l) := fun l hl1 => by
                rcases Nat.lt_succ_iff_lt_or_eq.1 hl1 with e | e
                · exact hdone.out l e
                · rw [e]; exact hok.out.2 ⟨hb, by have := hcn.out; omega, hcl2.out⟩
              clear hcj hx hno hall hdone hI2 hc2 h hok m0 m1 m2 m3 hbel2 hcl2 hb hcn
              go_wp2_with (fail)
              go_roundw
              case rel => exact ⟨j + 1, by omega, by go_num, hokk, hbelj⟩
              case measure => simp [intOf]; omega
        · have hr := hno.out k hlt (fun q => by have := (hok.out.1 q).2.1; have := hcn.out; omega)
          subst hr
          clear hno hall hok hdone hx hb hcn hc2 hI2
          go_wp2_with (fail)
          refine C2.mono ?_
          rintro z w3 ⟨rfl, rfl⟩
          go_wp2_with (fail)
          go_ret
          exact ⟨rfl, hbel2⟩
    · have hkn : k = n := by omega
      subst hkn
      by_cases e : (k : Int) ≤ 10
      · have hr : R = true := by rw [hall.out hdone]; exact decide_eq_true (by omega)
        subst hr
        clear hno hall hdone
        go_wp2_with (fail)
        go_ret
        exact ⟨rfl, hbel⟩
      · have hr : R = false := by rw [hall.out hdone]; exact decide_eq_false (by omega)
        subst hr
        clear hno hall hdone
        go_wp2_with (fail)
        go_ret
        exact ⟨rfl, hbel⟩

end Go.Proofs.Ytkdbcplcpcdnbaa
