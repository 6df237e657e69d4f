/-
  What the program tells of a letter: what goes with its seal, and its bytes. Conditions: bytes that lie there.
-/
import Derived.Test.YtaijemajolgmfaaImplLetterA
import Derived.Test.YtaijemajolgmfaaConcat
import Derived.Deep.RegionHeld3
namespace Go.Proofs.Ytaijemajolgmfaa
open Go.RowKit
set_option maxRecDepth 100000

/-- What goes with a seal. -/
def headN (e : Int) (n : Nat) : Nat := 1 + fitN e 2 + n
def headL (e : Int) (xs : List Int) : List Int := [1] ++ (fitL e 2).reverse ++ xs
/-- A letter's bytes. -/
def lbN (e : Int) (n m : Nat) : Nat := if letOk e n m then 35 + m else 0
def lbL (e : Int) (xs ys : List Int) : List Int := if letOk e xs.length ys.length then headL e xs ++ ys else []
theorem fitN_two {e : Int} (h : 0 ≤ e) : fitN e 2 = 2 := by simp [fitN, fitB, h]
theorem fitL_length (e : Int) : (fitL e 2).length = fitN e 2 := littleL_length _ _
theorem headL_length (e : Int) (xs : List Int) : (headL e xs).length = headN e xs.length := by
  rw [headL, headN, List.length_append, List.length_append, List.length_reverse, fitL_length]
  rfl
theorem headN_ok {e : Int} {n m : Nat} (h : letOk e n m) : headN e n = 35 := by rw [headN, fitN_two h.1, h.2.2.1]
theorem lbN_le (e : Int) (n m : Nat) : lbN e n m ≤ 1551 := by
  rw [lbN]
  split
  · rename_i h
    have := h.2.2.2.2
    omega
  · omega
theorem lbL_length (e : Int) (xs ys : List Int) : (lbL e xs ys).length = lbN e xs.length ys.length := by
  rw [lbL, lbN]
  split
  · rename_i h
    rw [List.length_append, headL_length, headN_ok h]
  · rfl

theorem in_one' (w : World) (ty B : Nat) (h : w.heap.size = B) : BytesIn (w.alloc (.cells #[.int .u8 1] ty)) (some ⟨B, 0, none⟩) 1 [1] := by
  subst h
  intro _
  refine ⟨w.heap.size, 0, rfl, fun i hi => ?_⟩
  obtain rfl : i = 0 := by omega
  rw [cell_of_row _ _ _ _ _ _ (heap_alloc_new w _)]
  rfl
theorem in_allocL {w : World} {p : Option Addr} {n : Nat} {xs : List Int} (h : BytesIn w p n xs) (o : Obj) : BytesIn (w.alloc o) p n xs := in_below h ((Below.refl _ _).alloc (Nat.le_refl _) _)
theorem below_allocL {a w : World} (h : Below a.heap.size a w) (o : Obj) : Below a.heap.size a (w.alloc o) := h.alloc h.size o
theorem below_drewL {a w : World} (h : Below a.heap.size a w) : Below a.heap.size a w.drew := h.drew
theorem in_drewL {w : World} {p : Option Addr} {n : Nat} {xs : List Int} (h : BytesIn w p n xs) : BytesIn w.drew p n xs := in_below h (Below.refl _ _).drew

theorem concat3 (p0 p1 p2 : Option Addr) (n0 n1 n2 c0 c1 c2 : Nat) (xs0 xs1 xs2 : List Int) (w w0 : World) (hx0 : xs0.length = n0) (hx1 : xs1.length = n1) (hx2 : xs2.length = n2) (h0 : 0 < n0 + n1 + n2) (hs1 : n0 + n1 + n2 ≤ 1073741824) (hw : Below w.heap.size w w0)
    (i0 : BytesIn w0 p0 n0 xs0) (i1 : BytesIn w0 p1 n1 xs1) (i2 : BytesIn w0 p2 n2 xs2) (gr : Nat) (hgr : w0.heap.size = gr) :
    Calls Try.prog 47 #[.slice (some ⟨gr, 0, none⟩) 3 3] (w0.alloc (.cells #[.slice p0 n0 c0, .slice p1 n1 c1, .slice p2 n2 c2] 22)) fun e w' =>
      ∃ p' c', e = .returned (.slice p' (n0 + n1 + n2) c') ∧ Own 5 w' w.heap.size w'.heap.size (.slice p' (n0 + n1 + n2) c') (n0 + n1 + n2) (xs0 ++ xs1 ++ xs2) ∧ Below w.heap.size w w' := by
  subst hgr
  have ba : Below w0.heap.size w0 (w0.alloc (.cells #[.slice p0 n0 c0, .slice p1 n1 c1, .slice p2 n2 c2] 22)) := (Below.refl _ _).alloc (Nat.le_refl _) _
  have hs : sumN (fun k => match k with | 0 => n0 | 1 => n1 | _ => n2) 3 = n0 + n1 + n2 := by simp [sumN]
  have hc : catL (fun k => match k with | 0 => xs0 | 1 => xs1 | _ => xs2) 3 = xs0 ++ xs1 ++ xs2 := by simp [catL]
  have h := concat_any w0.heap.size 3 (fun k => match k with | 0 => p0 | 1 => p1 | _ => p2) (fun k => match k with | 0 => n0 | 1 => n1 | _ => n2) (fun k => match k with | 0 => c0 | 1 => c1 | _ => c2) (fun k => match k with | 0 => xs0 | 1 => xs1 | _ => xs2)
    (w0.alloc (.cells #[.slice p0 n0 c0, .slice p1 n1 c1, .slice p2 n2 c2] 22)) (by decide)
    (fun k hk => by
      rw [cell_of_row _ _ k _ _ _ (heap_alloc_new w0 _)]
      match k, hk with
      | 0, _ => rfl
      | 1, _ => rfl
      | 2, _ => rfl)
    (fun k hk => by
      match k, hk with
      | 0, _ => exact hx0
      | 1, _ => exact hx1
      | 2, _ => exact hx2)
    (fun k hk => by
      match k, hk with
      | 0, _ => exact in_below i0 ba
      | 1, _ => exact in_below i1 ba
      | 2, _ => exact in_below i2 ba)
    (by rw [hs]; omega) (by rw [hs]; omega)
  rw [hs, hc] at h
  refine h.mono ?_
  rintro e w' ⟨p', c', rfl, r, b⟩
  have hsz := hw.size
  exact ⟨p', c', rfl, ⟨owns_mono r.1 (by simp; omega), r.2⟩, below_on (below_on hw ba) b⟩

set_option maxHeartbeats 4000000 in
theorem letterHead_any (e : Int) (p q : Option Addr) (n c m d : Nat) (xs : List Int) (w : World) (he : e ≤ 9223372036854775807) (hn : n ≤ 1048576) (hx : xs.length = n) (h : BytesIn w p n xs) :
    Calls Try.prog 44 #[.agg #[.int .i64 e, .slice p n c, .slice q m d]] w fun z w' => ∃ p' c', z = .returned (.slice p' (headN e n) c') ∧ Own 5 w' w.heap.size w'.heap.size (.slice p' (headN e n) c') (headN e n) (headL e xs) ∧ Below w.heap.size w w' := by
  unfold headN headL
  have hF := fitN_le e 2
  have hFl : ((fitL e 2).reverse).length = fitN e 2 := by rw [List.length_reverse, fitL_length]
  have C := fun w => implGreat_any e 2 w he
  generalize (fitL e 2).reverse = FL at C hFl ⊢
  generalize fitN e 2 = F at C hFl hF ⊢
  obtain ⟨W, hW⟩ : ∃ W, W = w.alloc (.cells #[.int .i64 e, .slice p n c, .slice q m d] 33) := ⟨_, rfl⟩
  have kA : Below w.heap.size w W := by rw [hW]; exact made_below _ _ (Below.refl _ _)
  have CA : Cells W w.heap.size #[.int .i64 e, .slice p n c, .slice q m d] := by rw [hW]; exact Cells.made _ _ _
  have HK : ∀ X, Below W.heap.size W X → X.cell? ⟨w.heap.size, 0, none⟩ = some (.int .i64 e) ∧ X.cell? ⟨w.heap.size, 1, none⟩ = some (.slice p n c) := fun X hX => ⟨((CA.on hX).2 0).1, ((CA.on hX).2 1).1⟩
  have hh := in_below h kA
  have kB := fun (X : World) (hX : Below W.heap.size W X) => below_on kA hX
  replace hW : Hid (w.alloc (.cells #[.int .i64 e, .slice p n c, .slice q m d] 33) = W) := hW.symm
  clear CA
  obtain ⟨TL, hTL⟩ : ∃ TL, TL = [1] ++ FL ++ xs := ⟨_, rfl⟩
  obtain ⟨TN, hTN⟩ : ∃ TN, TN = 1 + F + n := ⟨_, rfl⟩
  rw [← hTL, ← hTN]
  have CC := fun (p0 p1 : Option Addr) (c0 c1 : Nat) (w0 : World) (hw : Below W.heap.size W w0) (i0 : BytesIn w0 p0 1 [1]) (i1 : BytesIn w0 p1 F FL) (i2 : BytesIn w0 p n xs) (gr : Nat) (hgr : w0.heap.size = gr) => concat3 p0 p1 p 1 F n c0 c1 c [1] FL xs W w0 rfl hFl hx (by omega) (by omega) hw i0 i1 i2 gr hgr
  rw [← hTL, ← hTN] at CC
  clear hTL hTN
  go_enter Try.func44, Try.ntmps44
  go_wp2_with (rw [hW.out])
  go_region_held3 (fun w' => w'.cell? ⟨w.heap.size, 0, none⟩ = some (.int .i64 e) ∧ w'.cell? ⟨w.heap.size, 1, none⟩ = some (.slice p n c)) (exact HK _ (by repeat (with_reducible (first | exact Below.refl _ _ | exact bk | refine below_allocL ?_ _ | refine below_drewL ?_ | refine below_on ?_ bg)))) (first | (go_at_call 35; refine (C _).mono ?_; rintro z wg ⟨pg, cg, rfl, rg, bg⟩) | (go_at_call 47; refine (CC _ _ _ _ _ (by repeat (with_reducible (first | exact Below.refl _ _ | refine below_allocL ?_ _ | refine below_drewL ?_ | refine below_on ?_ bg))) (by repeat (with_reducible (first | exact rg.bytes | exact in_one' _ _ _ (by simp) | exact hh | refine in_allocL ?_ _ | refine in_drewL ?_ | refine in_below ?_ bg))) (by repeat (with_reducible (first | exact rg.bytes | exact in_one' _ _ _ (by simp) | exact hh | refine in_allocL ?_ _ | refine in_drewL ?_ | refine in_below ?_ bg))) (by repeat (with_reducible (first | exact rg.bytes | exact in_one' _ _ _ (by simp) | exact hh | refine in_allocL ?_ _ | refine in_drewL ?_ | refine in_below ?_ bg))) _ (by simp)).mono ?_; rintro z wk ⟨pk, ck, rfl, rk, bk⟩))
  all_goals
    go_wp2
    go_ret
    exact ⟨_, _, rfl, ⟨owns_mono rk.1 kA.size, rk.2⟩, kB _ bk⟩

end Go.Proofs.Ytaijemajolgmfaa
