/-
  A run alone, carried to a run beside those that only leave. HERE: what is asked of the program, function by function.
  The functions that are reached are of the kinds of operations that hang on no other answers than they take.
  Seal beside others, whole.
  What the specification's Seal answers, alone.
  What the laws' helper eqByteS does, whatever bytes it is given: it compares; no condition but that a length is an int's.
  What the laws' helper toByteS does, whatever bytes it is given: it copies them; condition: at most 1048576 bytes.
  What the laws' helpers that mark bytes do: markByteS lays its marks, heldByteS finds them; conditions: at most 2^40 bytes, marks from 0 to 2^40.
  A tag's contract as a word; what a tag is by a key whose first half is nought, and of no text.
  Laws that call Seal or Open, beside those that only leave: what stands at their begin and their end; what they see.
  A law that calls Seal or Open: out of its own steps beside those that only leave, what the claim asks: it ends, answers true, leaves what was there; no data race; all that were started only leave.
  The table of places, as a row's text lays it (an array of arrays of ints), is as the walks ask for it.
  What a law's claim hands over: its slices of bytes, the table of places.
  Open beside others: its deferred closure at a return and at a panic, the way out (printed by tools/opa.py).
  Open beside those that only leave: the sizes that are wanted, what is wanted of the tag, its refusal, in the form of rules (BesB).
-/
import Derived.Test.YthjapmdikbmmkaaDoorPary10
import Derived.KernelRfl
import Derived.Test.YthjapmdikbmmkaaDoorPary22
import Derived.Test.YthjapmdikbmmkaaDoorPary11
import Derived.Test.YthjapmdikbmmkaaDoorPary15
import Derived.Test.YthjapmdikbmmkaaDoorPary25
import Derived.Test.YthjapmdikbmmkaaDoorPary13
import Derived.Test.YthjapmdikbmmkaaDoorPary23
import Derived.Test.YthjapmdikbmmkaaDoorPary18
import Derived.Test.YthjapmdikbmmkaaDoorPary21
import Derived.Lib.LaidTab
import Derived.WideShapes
import GoSem.Claims
namespace Go.Proofs.YthjapmdikbmmkaaDoor
open Go Go.Conc
set_option maxRecDepth 100000

theorem tameA_one {P : Program} {Al : Als} {f : Nat} {fn : Func} (h : P.funcs[f]? = some fn) (hc : (match fn.body with | some b => okCodeT P Al (Al.f f) b | none => false) = true) (hn : (fn.name == "runtime.NumGoroutine") = false) (hl : ∀ t, 200 ≤ t → Al.f f t = false) : ∃ fn body, P.funcs[f]? = some fn ∧ (fn.name == "runtime.NumGoroutine") = false ∧ fn.body = some body ∧ (Al.b f = false → okCodeT P Al (Al.f f) body = true) ∧ ∀ t, 200 ≤ t → Al.f f t = false := by
  cases hb : fn.body with
  | none => rw [hb] at hc; cases hc
  | some b =>
    rw [hb] at hc
    exact ⟨fn, b, h, hn, hb, fun _ => hc, hl⟩
theorem tameA_base {P : Program} {Al : Als} {f : Nat} {fn : Func} (h : P.funcs[f]? = some fn) (hc : fn.body.isSome = true) (hb : Al.b f = true) (hn : (fn.name == "runtime.NumGoroutine") = false) (hl : ∀ t, 200 ≤ t → Al.f f t = false) : ∃ fn body, P.funcs[f]? = some fn ∧ (fn.name == "runtime.NumGoroutine") = false ∧ fn.body = some body ∧ (Al.b f = false → okCodeT P Al (Al.f f) body = true) ∧ ∀ t, 200 ≤ t → Al.f f t = false := by
  obtain ⟨b, hb'⟩ := Option.isSome_iff_exists.1 hc
  exact ⟨fn, b, h, hn, hb', fun h' => absurd (hb.symm.trans h') (by decide), hl⟩
theorem step_none {P : Program} {G : Nat} (h : (P.funcs.all fun f => (f.body.map readies).all (fun l => l.all (decide <| · < G))) = true) {g : Nat} (hg : G ≤ g) : P.stepOf g = none := by
  unfold Program.stepOf
  rw [Array.findIdx?_eq_none_iff]
  intro f hf
  have h1 := (Array.all_eq_true'.1 h) f hf
  cases hb : f.body.map readies with
  | none => rfl
  | some l =>
    rw [hb] at h1
    simp only [Option.all_some, List.all_eq_true, decide_eq_true_eq] at h1
    simp only [Option.any_some]
    refine Bool.eq_false_iff.2 fun hc => ?_
    have := h1 g (List.contains_iff_mem.1 hc)
    omega
end Go.Proofs.YthjapmdikbmmkaaDoor

namespace Go.Proofs.YthjapmdikbmmkaaDoor
open Go Go.Conc

def alsS : Als := ⟨fun f => [3, 4, 5, 6, 7, 8, 9, 10, 11, 12, 13, 14, 15, 16, 17, 18, 19, 20, 21, 22, 23, 25, 27, 28, 29, 30, 31, 33, 34, 35, 36, 37, 38, 39, 40, 41, 42, 43, 44, 47, 48, 49, 50, 51, 52, 53, 54, 55, 56, 57, 58, 59, 60, 61, 62, 63, 64, 65, 66, 67, 68, 69, 70, 71, 72, 73, 74, 75, 76, 77, 78, 79, 80, 81, 82, 83, 84, 85, 86, 87, 88, 89].contains f, fun f t => (f == 79 && [5, 21].contains t), fun f => [4, 5, 3, 8, 11].contains f⟩
theorem lateS (f t : Nat) (h : 200 ≤ t) : alsS.f f t = false := by
  simp only [alsS, List.contains_cons, List.contains_nil, Bool.or_false, Bool.or_eq_false_iff, Bool.and_eq_false_iff, beq_eq_false_iff_ne]
  omega
theorem tameAS : TameA Tryd.prog alsS := by
  refine ⟨fun f hf => ?_, by kernel_rfl, fun g hg => step_none (by kernel_rfl) hg⟩
  simp only [alsS, List.contains_cons, List.contains_nil, Bool.or_false, Bool.or_eq_true, beq_iff_eq] at hf
  rcases hf with rfl | rfl | rfl | rfl | rfl | rfl | rfl | rfl | rfl | rfl | rfl | rfl | rfl | rfl | rfl | rfl | rfl | rfl | rfl | rfl | rfl | rfl | rfl | rfl | rfl | rfl | rfl | rfl | rfl | rfl | rfl | rfl | rfl | rfl | rfl | rfl | rfl | rfl | rfl | rfl | rfl | rfl | rfl | rfl | rfl | rfl | rfl | rfl | rfl | rfl | rfl | rfl | rfl | rfl | rfl | rfl | rfl | rfl | rfl | rfl | rfl | rfl | rfl | rfl | rfl | rfl | rfl | rfl | rfl | rfl | rfl | rfl | rfl | rfl | rfl | rfl | rfl | rfl | rfl | rfl | rfl | rfl
  · exact tameA_base Tryd.func3 (by kernel_rfl) (by decide) (by kernel_rfl) (lateS _)
  · exact tameA_base Tryd.func4 (by kernel_rfl) (by decide) (by kernel_rfl) (lateS _)
  · exact tameA_base Tryd.func5 (by kernel_rfl) (by decide) (by kernel_rfl) (lateS _)
  · exact tameA_one Tryd.func6 (by kernel_rfl) (by kernel_rfl) (lateS _)
  · exact tameA_one Tryd.func7 (by kernel_rfl) (by kernel_rfl) (lateS _)
  · exact tameA_base Tryd.func8 (by kernel_rfl) (by decide) (by kernel_rfl) (lateS _)
  · exact tameA_one Tryd.func9 (by kernel_rfl) (by kernel_rfl) (lateS _)
  · exact tameA_one Tryd.func10 (by kernel_rfl) (by kernel_rfl) (lateS _)
  · exact tameA_base Tryd.func11 (by kernel_rfl) (by decide) (by kernel_rfl) (lateS _)
  · exact tameA_one Tryd.func12 (by kernel_rfl) (by kernel_rfl) (lateS _)
  · exact tameA_one Tryd.func13 (by kernel_rfl) (by kernel_rfl) (lateS _)
  · exact tameA_one Tryd.func14 (by kernel_rfl) (by kernel_rfl) (lateS _)
  · exact tameA_one Tryd.func15 (by kernel_rfl) (by kernel_rfl) (lateS _)
  · exact tameA_one Tryd.func16 (by kernel_rfl) (by kernel_rfl) (lateS _)
  · exact tameA_one Tryd.func17 (by kernel_rfl) (by kernel_rfl) (lateS _)
  · exact tameA_one Tryd.func18 (by kernel_rfl) (by kernel_rfl) (lateS _)
  · exact tameA_one Tryd.func19 (by kernel_rfl) (by kernel_rfl) (lateS _)
  · exact tameA_one Tryd.func20 (by kernel_rfl) (by kernel_rfl) (lateS _)
  · exact tameA_one Tryd.func21 (by kernel_rfl) (by kernel_rfl) (lateS _)
  · exact tameA_one Tryd.func22 (by kernel_rfl) (by kernel_rfl) (lateS _)
  · exact tameA_one Tryd.func23 (by kernel_rfl) (by kernel_rfl) (lateS _)
  · exact tameA_one Tryd.func25 (by kernel_rfl) (by kernel_rfl) (lateS _)
  · exact tameA_one Tryd.func27 (by kernel_rfl) (by kernel_rfl) (lateS _)
  · exact tameA_one Tryd.func28 (by kernel_rfl) (by kernel_rfl) (lateS _)
  · exact tameA_one Tryd.func29 (by kernel_rfl) (by kernel_rfl) (lateS _)
  · exact tameA_one Tryd.func30 (by kernel_rfl) (by kernel_rfl) (lateS _)
  · exact tameA_one Tryd.func31 (by kernel_rfl) (by kernel_rfl) (lateS _)
  · exact tameA_one Tryd.func33 (by kernel_rfl) (by kernel_rfl) (lateS _)
  · exact tameA_one Tryd.func34 (by kernel_rfl) (by kernel_rfl) (lateS _)
  · exact tameA_one Tryd.func35 (by kernel_rfl) (by kernel_rfl) (lateS _)
  · exact tameA_one Tryd.func36 (by kernel_rfl) (by kernel_rfl) (lateS _)
  · exact tameA_one Tryd.func37 (by kernel_rfl) (by kernel_rfl) (lateS _)
  · exact tameA_one Tryd.func38 (by kernel_rfl) (by kernel_rfl) (lateS _)
  · exact tameA_one Tryd.func39 (by kernel_rfl) (by kernel_rfl) (lateS _)
  · exact tameA_one Tryd.func40 (by kernel_rfl) (by kernel_rfl) (lateS _)
  · exact tameA_one Tryd.func41 (by kernel_rfl) (by kernel_rfl) (lateS _)
  · exact tameA_one Tryd.func42 (by kernel_rfl) (by kernel_rfl) (lateS _)
  · exact tameA_one Tryd.func43 (by kernel_rfl) (by kernel_rfl) (lateS _)
  · exact tameA_one Tryd.func44 (by kernel_rfl) (by kernel_rfl) (lateS _)
  · exact tameA_one Tryd.func47 (by kernel_rfl) (by kernel_rfl) (lateS _)
  · exact tameA_one Tryd.func48 (by kernel_rfl) (by kernel_rfl) (lateS _)
  · exact tameA_one Tryd.func49 (by kernel_rfl) (by kernel_rfl) (lateS _)
  · exact tameA_one Tryd.func50 (by kernel_rfl) (by kernel_rfl) (lateS _)
  · exact tameA_one Tryd.func51 (by kernel_rfl) (by kernel_rfl) (lateS _)
  · exact tameA_one Tryd.func52 (by kernel_rfl) (by kernel_rfl) (lateS _)
  · exact tameA_one Tryd.func53 (by kernel_rfl) (by kernel_rfl) (lateS _)
  · exact tameA_one Tryd.func54 (by kernel_rfl) (by kernel_rfl) (lateS _)
  · exact tameA_one Tryd.func55 (by kernel_rfl) (by kernel_rfl) (lateS _)
  · exact tameA_one Tryd.func56 (by kernel_rfl) (by kernel_rfl) (lateS _)
  · exact tameA_one Tryd.func57 (by kernel_rfl) (by kernel_rfl) (lateS _)
  · exact tameA_one Tryd.func58 (by kernel_rfl) (by kernel_rfl) (lateS _)
  · exact tameA_one Tryd.func59 (by kernel_rfl) (by kernel_rfl) (lateS _)
  · exact tameA_one Tryd.func60 (by kernel_rfl) (by kernel_rfl) (lateS _)
  · exact tameA_one Tryd.func61 (by kernel_rfl) (by kernel_rfl) (lateS _)
  · exact tameA_one Tryd.func62 (by kernel_rfl) (by kernel_rfl) (lateS _)
  · exact tameA_one Tryd.func63 (by kernel_rfl) (by kernel_rfl) (lateS _)
  · exact tameA_one Tryd.func64 (by kernel_rfl) (by kernel_rfl) (lateS _)
  · exact tameA_one Tryd.func65 (by kernel_rfl) (by kernel_rfl) (lateS _)
  · exact tameA_one Tryd.func66 (by kernel_rfl) (by kernel_rfl) (lateS _)
  · exact tameA_one Tryd.func67 (by kernel_rfl) (by kernel_rfl) (lateS _)
  · exact tameA_one Tryd.func68 (by kernel_rfl) (by kernel_rfl) (lateS _)
  · exact tameA_one Tryd.func69 (by kernel_rfl) (by kernel_rfl) (lateS _)
  · exact tameA_one Tryd.func70 (by kernel_rfl) (by kernel_rfl) (lateS _)
  · exact tameA_one Tryd.func71 (by kernel_rfl) (by kernel_rfl) (lateS _)
  · exact tameA_one Tryd.func72 (by kernel_rfl) (by kernel_rfl) (lateS _)
  · exact tameA_one Tryd.func73 (by kernel_rfl) (by kernel_rfl) (lateS _)
  · exact tameA_one Tryd.func74 (by kernel_rfl) (by kernel_rfl) (lateS _)
  · exact tameA_one Tryd.func75 (by kernel_rfl) (by kernel_rfl) (lateS _)
  · exact tameA_one Tryd.func76 (by kernel_rfl) (by kernel_rfl) (lateS _)
  · exact tameA_one Tryd.func77 (by kernel_rfl) (by kernel_rfl) (lateS _)
  · exact tameA_one Tryd.func78 (by kernel_rfl) (by kernel_rfl) (lateS _)
  · exact tameA_one Tryd.func79 (by kernel_rfl) (by kernel_rfl) (lateS _)
  · exact tameA_one Tryd.func80 (by kernel_rfl) (by kernel_rfl) (lateS _)
  · exact tameA_one Tryd.func81 (by kernel_rfl) (by kernel_rfl) (lateS _)
  · exact tameA_one Tryd.func82 (by kernel_rfl) (by kernel_rfl) (lateS _)
  · exact tameA_one Tryd.func83 (by kernel_rfl) (by kernel_rfl) (lateS _)
  · exact tameA_one Tryd.func84 (by kernel_rfl) (by kernel_rfl) (lateS _)
  · exact tameA_one Tryd.func85 (by kernel_rfl) (by kernel_rfl) (lateS _)
  · exact tameA_one Tryd.func86 (by kernel_rfl) (by kernel_rfl) (lateS _)
  · exact tameA_one Tryd.func87 (by kernel_rfl) (by kernel_rfl) (lateS _)
  · exact tameA_one Tryd.func88 (by kernel_rfl) (by kernel_rfl) (lateS _)
  · exact tameA_one Tryd.func89 (by kernel_rfl) (by kernel_rfl) (lateS _)

end Go.Proofs.YthjapmdikbmmkaaDoor

namespace Go.Proofs.YthjapmdikbmmkaaDoor
open Go Go.Conc Go.RowKit
set_option maxRecDepth 100000

theorem BytesT.into {w : World} {p : Option Addr} {n c : Nat} {xs : List Int} (h : BytesT w p n c xs) : BytesIn w p n xs := fun h0 => by
  obtain ⟨b, o, e, hc⟩ := h.lies h0
  have := h.len
  exact ⟨b, o, e, fun i hi => hc i _ (by rw [List.getD_eq_getElem?_getD, List.getElem?_eq_getElem (by omega)]; rfl)⟩
theorem BytesT.keeps {w w1 : World} {p : Option Addr} {n c : Nat} {xs : List Int} (h : BytesT w p n c xs) (hk : ∀ b, b < w.heap.size → w1.heap[b]? = w.heap[b]?) : BytesT w1 p n c xs := ⟨h.len, h.cap, h.low, fun h0 => by
  obtain ⟨b, o, e, hb, hc⟩ := h.at h0
  refine ⟨b, o, e, fun j u hj => ?_⟩
  have := hc j u hj
  simp only [World.cell?] at this ⊢
  rw [hk b hb]
  exact this⟩
def seaL (KS NS AS BS : List Int) : List Int := strT KS 1 NS BS ++ stL KS NS AS (strT KS 1 NS BS)
theorem strT_length (KS : List Int) (ct : Int) (NS BS : List Int) : (strT KS ct NS BS).length = BS.length := by
  unfold strT
  rw [outR_length]
  omega
def SealTo (kn nn an bn : Nat) (KS NS AS BS : List Int) (c : Frame) (cs : List Frame) (w : World) (g1 : Goroutine) (w1 : World) : Prop :=
  Lay w w1 ∧ ((¬ SizesOk kn nn an bn ∧ g1 = G (c.finish (.tuple #[.slice none 0 0, .bool false])) cs) ∨ (SizesOk kn nn an bn ∧ ∃ γ rc, w.heap.size ≤ γ ∧ bn + 16 ≤ rc ∧ rc ≤ maxLen ∧ g1 = G (c.finish (.tuple #[.slice (some ⟨γ, 0, none⟩) (bn + 16) rc, .bool true])) cs ∧ w1.heap[γ]? = some (.cells ((seaL KS NS AS BS).map (Value.int .u8) ++ zerV (rc - (bn + 16))).toArray 5 (0, 0))))
end Go.Proofs.YthjapmdikbmmkaaDoor

namespace Go.Proofs.YthjapmdikbmmkaaDoor
open Go.RowKit
set_option maxRecDepth 100000

theorem below_drewS {a w : World} (h : Below a.heap.size a w) : Below a.heap.size a w.drew := h.drew
set_option maxHeartbeats 4000000 in
theorem l7Tag_any (kp np ap sp : Option Addr) (kc nc an ac sn sc : Nat) (ks ns es ss : List Int) (w : World) (hk : ks.length = 32) (hn : ns.length = 12) (ha : es.length = an) (hs : ss.length = sn) (han : an ≤ 1048576) (hsn : sn ≤ 1048576) (ik : BytesIn w kp 32 ks) (im : BytesIn w np 12 ns) (ia : BytesIn w ap an es) (is : BytesIn w sp sn ss)
    (bk : ∀ x ∈ ks, 0 ≤ x ∧ x < 256) (bn : ∀ x ∈ ns, 0 ≤ x ∧ x < 256) (ba : ∀ x ∈ es, 0 ≤ x ∧ x < 256) (bs : ∀ x ∈ ss, 0 ≤ x ∧ x < 256) :
    Calls Tryd.prog 30 #[.slice kp 32 kc, .slice np 12 nc, .slice ap an ac, .slice sp sn sc] w fun e w' => ∃ p' c', e = .returned (.slice p' (tagN 32 (ttN an sn)) c') ∧ Own 5 w' w.heap.size w'.heap.size (.slice p' (tagN 32 (ttN an sn)) c') (tagN 32 (ttN an sn)) (stL ks ns es ss) ∧ Below w.heap.size w w' := by
  unfold stL
  have C1 := fun X (hX : Below w.heap.size w X) => specBlk_any kp np 32 12 kc nc 0 ks ns X hk hn (in_below ik hX) (in_below im hX) bk bn
  have e64 : blkN 32 12 0 = 64 := by decide
  have hbl : (blkL ks 0 ns).length = 64 := by rw [blkL_length, hk, hn, e64]
  have hbb : ∀ x ∈ blkL ks 0 ns, 0 ≤ x ∧ x < 256 := blkL_byte ks 0 ns
  simp only [e64] at C1
  have C2 := fun X (hX : Below w.heap.size w X) => specTagText_any ap sp an sn ac sc es ss X han hsn ha hs (in_below ia hX) (in_below is hX)
  have htl : (ttL es ss).length = ttN an sn := by rw [ttL_length, ha, hs]
  have htb := ttL_byte ba bs
  generalize blkL ks 0 ns = BL at C1 hbl hbb ⊢
  generalize ttL es ss = TL at C2 htl htb ⊢
  generalize ttN an sn = TN at C2 htl ⊢
  obtain ⟨A, hA⟩ : ∃ A, A = BL.take 32 := ⟨_, rfl⟩
  have hAl : A.length = 32 := by rw [hA, List.length_take, hbl]; rfl
  have hAb : ∀ x ∈ A, 0 ≤ x ∧ x < 256 := fun x hx => hbb x (List.mem_of_mem_take (hA ▸ hx))
  rw [← hA]
  have HA : Hid (A = BL.take 32) := hA
  clear ik im ia is bk bn ba bs hk hn ha hs e64 hA hbb hbl han hsn
  go_enter Tryd.func30, Tryd.ntmps30
  go_wp2_with (fail)
  go_region_held3 (fun _ => True) (trivial) (first
    | (go_at_call 50; refine (C1 _ (by repeat (with_reducible (first | exact Below.refl _ _ | refine below_drewS ?_ | refine below_on ?_ bb)))).mono ?_; rintro e wa ⟨p1, c1, rfl, ra, ba⟩; have hc1 := ra.cap; have ra1 := ra.take (k := 32) (by omega); rw [← HA.out] at ra1; obtain ⟨g, o, rfl, _⟩ := ra.bytes (by omega); have hc2 : (32 : Int) ≤ (c1 : Int) := by omega)
    | (go_at_call 16; refine (C2 _ (by repeat (with_reducible (first | exact Below.refl _ _ | refine below_drewS ?_ | refine below_on ?_ ba)))).mono ?_; rintro e wb ⟨p2, c2, rfl, rb, bb⟩)
    | (go_at_call 52; refine (specTag_any (some ⟨g, o, none⟩) p2 32 TN c1 c2 A TL _ hAl htl (in_below ra1.bytes (by repeat (with_reducible (first | exact Below.refl _ _ | refine below_drewS ?_ | refine below_on ?_ bb)))) (in_below rb.bytes (by repeat (with_reducible (first | exact Below.refl _ _ | refine below_drewS ?_ | refine below_on ?_ ba)))) hAb htb (by omega) rb.cap).mono ?_; rintro e wc ⟨p3, c3, rfl, rc, bc⟩))
  all_goals
    go_wp2
    go_ret
    first
      | exact ⟨_, _, rfl, ⟨owns_mono rc.1 (below_on (below_on (below_drewS (Below.refl _ _)) ba) bb).size, rc.2⟩, below_on (below_on (below_on (below_drewS (Below.refl _ _)) ba) bb) bc⟩
      | exact ⟨_, _, rfl, ⟨owns_mono rc.1 (below_on (below_on (below_drewS (Below.refl _ _)) bb) ba).size, rc.2⟩, below_on (below_on (below_on (below_drewS (Below.refl _ _)) bb) ba) bc⟩
end Go.Proofs.YthjapmdikbmmkaaDoor

namespace Go.Proofs.YthjapmdikbmmkaaDoor
open Go.RowKit
set_option maxRecDepth 100000

theorem eq_len (p q : Option Addr) (n m c d : Nat) (w : World) (hne : n ≠ m) :
    Calls Tryd.prog 19 #[.slice p n c, .slice q m d] w fun e w' => e = .returned (.bool false) ∧ Below w.heap.size w w' := by
  have hd : ((n : Int) != (m : Int)) = true := by simp; omega
  go_enter Tryd.func19, Tryd.ntmps19
  go_wp2
  go_ret
  exact ⟨rfl, Below.refl _ _⟩

set_option maxHeartbeats 1000000 in
theorem eq_same (p q : Option Addr) (n c d : Nat) (xs ys : List Int) (w : World) (hn : n ≤ 9223372036854775807) (hx : xs.length = n) (hy : ys.length = n) (h : BytesIn w p n xs) (h' : BytesIn w q n ys) :
    Calls Tryd.prog 19 #[.slice p n c, .slice q n d] w fun e w' => e = .returned (.bool (decide (xs = ys))) ∧ Below w.heap.size w w' := by
  have hd : ((n : Int) != (n : Int)) = false := by simp
  go_enter Tryd.func19, Tryd.ntmps19
  go_wp2
  go_loopw [5] (fun i wr => ∃ k : Nat, k ≤ n ∧ i = .int .i64 k ∧ Hid (xs.take k = ys.take k) ∧ ∃ m, wr = w.drewN m) (fun i _ => n - (intOf i).toNat)
  case atStart => exact ⟨0, Nat.zero_le _, rfl, by simp [Hid], 0, rfl⟩
  case round =>
    obtain ⟨k, hk, rfl, hsame, m, rfl⟩ := hrel
    by_cases hlt : k < n
    · obtain ⟨b, o, rfl, hc⟩ := h (by omega)
      obtain ⟨b', o', rfl, hc'⟩ := h' (by omega)
      have h1 := hc k hlt
      have h2 := hc' k hlt
      obtain ⟨u, hu⟩ : ∃ u, u = xs.getD k 0 := ⟨_, rfl⟩
      obtain ⟨v, hv⟩ : ∃ v, v = ys.getD k 0 := ⟨_, rfl⟩
      rw [← hu] at h1
      rw [← hv] at h2
      clear hc hc' h h'
      by_cases huv : u = v
      · subst huv
        have hd2 : (u != u) = false := by simp
        have hmore : Hid (xs.take (k + 1) = ys.take (k + 1)) := take_more hx hy hlt hsame (by rw [← hu, ← hv])
        clear hu hv hsame
        go_wp2
        go_quiet (fail)
        go_wp2
        go_roundw
        case rel => exact ⟨k + 1, by omega, by go_num, hmore, _, rfl⟩
        case measure => simp [intOf]; omega
      · have hd2 : (u != v) = true := by simpa using huv
        have hne : Hid (decide (xs = ys) = false) := by have := take_less (k := k) (xs := xs) (ys := ys) (by rw [← hu, ← hv]; exact huv); simpa [Hid] using this
        clear hu hv hsame huv
        go_wp2
        go_quiet (fail)
        go_wp2
        go_ret
        rw [hne.out, World.drewN_drewN]
        exact ⟨rfl, below_drewN (Below.refl _ _) _⟩
    · have hkn : k = n := by omega
      subst hkn
      have hall : Hid (decide (xs = ys) = true) := by simpa [Hid] using take_all hx hy hsame
      clear hsame
      go_wp2
      go_ret
      rw [hall.out]
      exact ⟨rfl, below_drewN (Below.refl _ _) _⟩

theorem eqByteS_any (p q : Option Addr) (n m c d : Nat) (xs ys : List Int) (w : World) (hn : n ≤ 9223372036854775807) (hx : xs.length = n) (hy : ys.length = m) (h : BytesIn w p n xs) (h' : BytesIn w q m ys) :
    Calls Tryd.prog 19 #[.slice p n c, .slice q m d] w fun e w' => e = .returned (.bool (decide (xs = ys))) ∧ Below w.heap.size w w' := by
  by_cases hnm : n = m
  · subst hnm
    exact eq_same p q n c d xs ys w hn hx hy h h'
  · have : decide (xs = ys) = false := by
      simp only [decide_eq_false_iff_not]
      intro e
      subst e
      omega
    rw [this]
    exact eq_len p q n m c d w hnm

end Go.Proofs.YthjapmdikbmmkaaDoor

namespace Go.Proofs.YthjapmdikbmmkaaDoor
open Go.RowKit
set_option maxRecDepth 100000

set_option maxHeartbeats 1000000 in
theorem toByteS_any (p : Option Addr) (n c : Nat) (xs : List Int) (w : World) (hn : n ≤ 1048576) (hx : xs.length = n) (h : BytesIn w p n xs) :
    Calls Tryd.prog 18 #[.slice p n c] w fun e w' => e = .returned (.slice (some ⟨w.heap.size, 0, none⟩) n n) ∧
      w'.ownsRow w.heap.size 5 1 (.slice (some ⟨w.heap.size, 0, none⟩) n n) n (xs.map (Value.int .u8)) ∧ Below w.heap.size w w' := by
  obtain ⟨i0, hi, hz0, hz1, hz2⟩ := info_parts infoByte
  go_enter Tryd.func18, Tryd.ntmps18
  go_wp2_with (at_make; refine wpList_make_full _ rfl _ _ 22 rfl w.heap.size 5 i0 (.int .u8 0) 1 Tryd.underlying22 hi hz0 hz1 _ _ _ _ n rfl rfl rfl rfl ?b2 ?b3 ?b4 ?_)
  case b2 => rw [hz2]; omega
  case b3 => unfold maxLen; omega
  case b4 => exact Nat.le_refl _
  intro w1 hown hgrow
  rw [fill_start xs n] at hown
  have hbel : Below w.heap.size w w1 := (Below.refl _ _).grown hgrow (Nat.le_refl _) (fun _ h => by cases h)
  clear hgrow
  go_wp2
  go_loopw [4] (fun i wr => ∃ k : Nat, k ≤ n ∧ i = .int .i64 k ∧ wr.ownsRow w.heap.size 5 1 (.slice (some ⟨w.heap.size, 0, none⟩) n n) n ((xs.take k ++ List.replicate (n - k) 0).map (Value.int .u8)) ∧ Below w.heap.size w wr)
    (fun i _ => n - (intOf i).toNat)
  case atStart => exact ⟨0, Nat.zero_le _, rfl, hown, hbel⟩
  case round =>
    clear hown hbel
    obtain ⟨k, hk, rfl, hown, hbel⟩ := hrel
    by_cases hlt : k < n
    · obtain ⟨b, o, rfl, hc⟩ := h (by omega)
      obtain ⟨u, hu⟩ : ∃ u, u = xs.getD k 0 := ⟨_, rfl⟩
      have hcx : wr.cell? ⟨b, o + k, none⟩ = some (.int .u8 u) := by
        rw [hbel.cell (p := ⟨b, o + k, none⟩) (World.block_lt_of_cell? w ⟨b, o + k, none⟩ (hc k hlt)), hu]
        exact hc k hlt
      have hold : wr.cell? ⟨w.heap.size, k, none⟩ = some (.int .u8 0) := by
        rw [hown.cellAt k (by omega)]; exact fill_old xs n k hlt hx
      have hfz := hown.frozenAt k
      have hst := hown.stored k (.int .u8 u)
      rw [fill_step xs n k u hu hlt hx] at hst
      have hbel' := hbel.setCell (p := ⟨w.heap.size, k, none⟩) (Nat.le_refl _) (.int .u8 u)
      clear hc h hu
      go_wp2
      go_roundw
      case rel => exact ⟨k + 1, by omega, by go_num, hst.1, hbel'⟩
      case measure => simp [intOf]; omega
    · have hkn : k = n := by omega
      subst hkn
      go_wp2
      go_ret
      rw [fill_end xs k hx] at hown
      exact ⟨rfl, hown, hbel⟩

theorem toByteS_own (p : Option Addr) (n c : Nat) (xs : List Int) (w : World) (hn : n ≤ 1048576) (hx : xs.length = n) (h : BytesIn w p n xs) :
    Calls Tryd.prog 18 #[.slice p n c] w fun e w' => ∃ p' c', e = .returned (.slice p' n c') ∧ Own 5 w' w.heap.size w'.heap.size (.slice p' n c') n xs ∧ Below w.heap.size w w' :=
  (toByteS_any p n c xs w hn hx h).mono fun _ _ ⟨h1, h2, h3⟩ => ⟨_, _, h1, .of h2, h3⟩

end Go.Proofs.YthjapmdikbmmkaaDoor

namespace Go.Proofs.YthjapmdikbmmkaaDoor
open Go.RowKit
set_option maxRecDepth 100000

set_option maxHeartbeats 1000000 in
theorem markByteS_any (base : Nat) (p : Option Addr) (n c : Nat) (xs : List Int) (k : Int) (w : World) (hn : n ≤ 1099511627776) (hk : 0 ≤ k) (hk2 : k ≤ 1099511627776)
    (h : w.ownsRow base 5 1 (.slice p n c) n (xs.map (Value.int .u8))) :
    Calls Tryd.prog 20 #[.slice p n c, .int .i64 k] w fun e w' => e = .returned (.int .i64 (k + n)) ∧
      w'.ownsRow base 5 1 (.slice p n c) n ((marks k n).map (Value.int .u8)) ∧ w.grownBy w' (Value.ownBlock (.slice p n c)) := by
  have hx := owns_len h
  go_enter Tryd.func20, Tryd.ntmps20
  go_wp2
  go_loopw [1, 5] (fun q i wr => ∃ j : Nat, j ≤ n ∧ i = .int .i64 j ∧ q = .int .i64 (k + j) ∧ wr.ownsRow base 5 1 (.slice p n c) n ((marks k j ++ xs.drop j).map (Value.int .u8)) ∧ w.grownBy wr (Value.ownBlock (.slice p n c)))
    (fun _ i _ => n - (intOf i).toNat)
  case atStart => exact ⟨0, Nat.zero_le _, rfl, by simp, by simpa [marks] using h, World.grownBy.refl _ _⟩
  case round =>
    clear h
    obtain ⟨j, hj, rfl, rfl, hown, hgr⟩ := hrel
    by_cases hlt : j < n
    · obtain ⟨g, rfl⟩ := owns_at hown (by omega)
      obtain ⟨v, hv⟩ := marks_old k xs n j hlt hx
      have hold : wr.cell? ⟨g, j, none⟩ = some (.int .u8 v) := by
        rw [hown.cellAt j (by omega)]; exact hv
      have hfz := hown.frozenAt j
      clear hv
      have hst := hown.stored j (.int .u8 ((k + (j : Int)) % 256))
      rw [marks_step k xs n j _ rfl hlt hx] at hst
      go_wp2
      go_roundw
      case rel => exact ⟨j + 1, by omega, by go_num, by go_num, hst.1, grown_trans hgr hst.2⟩
      case measure => simp [intOf]; omega
    · have hjn : j = n := by omega
      subst hjn
      rw [marks_end k xs j hx] at hown
      go_wp2
      go_ret
      exact ⟨rfl, hown, hgr⟩

set_option maxHeartbeats 1000000 in
theorem heldByteS_any (p : Option Addr) (n c : Nat) (k : Int) (w : World) (hn : n ≤ 1099511627776) (hk : 0 ≤ k) (hk2 : k ≤ 1099511627776)
    (h : BytesIn w p n (marks k n)) :
    Calls Tryd.prog 21 #[.slice p n c, .int .i64 k] w fun e w' => e = .returned (.int .i64 (k + n)) ∧ Below w.heap.size w w' := by
  go_enter Tryd.func21, Tryd.ntmps21
  go_wp2
  go_loop [1, 5] (fun q i => ∃ j : Nat, j ≤ n ∧ i = .int .i64 j ∧ q = .int .i64 (k + j)) (fun _ i => n - (intOf i).toNat)
  case atStart => exact ⟨0, Nat.zero_le _, rfl, by simp⟩
  case round =>
    obtain ⟨j, hj, rfl, rfl⟩ := hrel
    by_cases hlt : j < n
    · obtain ⟨b, o, rfl, hc⟩ := h (by omega)
      have h1 := hc j hlt
      rw [marks_getD k n j hlt] at h1
      have hd : ((k + (j : Int)) % 256 != (k + (j : Int)) % 256) = false := by simp
      clear hc h
      go_wp2
      go_round
      case rel => exact ⟨j + 1, by omega, by go_num, by go_num⟩
      case measure => simp [intOf]; omega
    · have hjn : j = n := by omega
      subst hjn
      go_wp2
      go_ret
      exact ⟨rfl, Below.refl _ _⟩

theorem markByteS_own (lo hi : Nat) (p : Option Addr) (n c : Nat) (xs : List Int) (k : Int) (w : World) (hn : n ≤ 1099511627776) (hk : 0 ≤ k) (hk2 : k ≤ 1099511627776)
    (h : Own 5 w lo hi (.slice p n c) n xs) :
    Calls Tryd.prog 20 #[.slice p n c, .int .i64 k] w fun e w' => e = .returned (.int .i64 (k + n)) ∧
      Own 5 w' lo hi (.slice p n c) n (marks k n) ∧ w.grownBy w' (Value.ownBlock (.slice p n c)) :=
  (markByteS_any lo p n c xs k w hn hk hk2 h.1).mono fun _ _ ⟨h1, h2, h3⟩ => ⟨h1, ⟨h2, h.2⟩, h3⟩

end Go.Proofs.YthjapmdikbmmkaaDoor

namespace Go.Proofs.YthjapmdikbmmkaaDoor
open Go.RowKit
set_option maxRecDepth 100000

def TagIs (f : Nat) : Prop := ∀ (p q : Option Addr) (n m c d : Nat) (ks bs : List Int) (w : World), ks.length = n → bs.length = m → BytesIn w p n ks → BytesIn w q m bs → (∀ x ∈ ks, 0 ≤ x ∧ x < 256) → (∀ x ∈ bs, 0 ≤ x ∧ x < 256) → n ≤ c → m ≤ d →
    Calls Tryd.prog f #[.slice p n c, .slice q m d] w fun e w' => ∃ p' c', e = .returned (.slice p' (tagN n m) c') ∧ Own 5 w' w.heap.size w'.heap.size (.slice p' (tagN n m) c') (tagN n m) (tagL ks bs) ∧ Below w.heap.size w w'
theorem tagL_byte (ks bs : List Int) : ∀ y ∈ tagL ks bs, 0 ≤ y ∧ y < 256 := by
  intro y hy
  unfold tagL at hy
  split at hy
  · simp only [tagB, List.mem_map] at hy
    obtain ⟨i, _, rfl⟩ := hy
    omega
  · cases hy

end Go.Proofs.YthjapmdikbmmkaaDoor

namespace Go.Proofs.YthjapmdikbmmkaaDoor
open Go Go.Conc Go.RowKit
set_option maxRecDepth 100000

structure Gr (C : Array Value) (e : TypeId) (w : World) : Prop where
  tab : TableIn C e w
  flat : ∀ v ∈ C, flatC v = true
  pl : ∀ (j : Nat) v, placesC[j]? = some v → C[j]? = some v
  cells : CellsTo Tryd.prog.globals.size w
theorem Gr.on {C : Array Value} {e : TypeId} {w w1 : World} (h : Gr C e w) (hl : Below w.heap.size w w1) : Gr C e w1 := ⟨by
  obtain ⟨lo, hi, h1, h2⟩ := h.tab
  exact ⟨lo, hi, (hl.block _ (Array.getElem?_eq_some_iff.1 h1).1).trans h1, h2⟩, h.flat, h.pl, cells_keeps h.cells hl.block⟩
theorem cells_le {n : Nat} {w : World} (h : CellsTo n w) : n ≤ w.heap.size := by
  cases n with
  | zero => exact Nat.zero_le _
  | succ n =>
    obtain ⟨o, h1, _⟩ := h n (Nat.lt_succ_self n)
    exact (Array.getElem?_eq_some_iff.1 h1).1
def LawDone (f : FuncId) (t : Nat) (W : World) (g : Goroutine) (w1 : World) : Prop := ∃ frE : Frame, g = G frE [] ∧ frE.mode = .returning ∧ frE.fn = f ∧ frE.defers = [] ∧ frE.kind = .normal ∧ frE.tmps.getD t undef = .bool true ∧ Lay W w1
def See (e : Nat) (w : World) (lo hi : Nat) (v : Value) (n : Nat) (xs : List Int) : Prop := (n = 0 ∧ xs.length = 0) ∨ Own e w lo hi v n xs
section
variable {e : Nat} {w w' : World} {lo hi lo' hi' : Nat} {u v : Value} {n m : Nat} {xs ys : List Int}
theorem Own.see (h : Own e w lo hi v n xs) : See e w lo hi v n xs := .inr h
theorem See.on (h : See e w lo hi v n xs) (hb : Below w.heap.size w w') : See e w' lo hi v n xs := h.imp id fun h => h.on hb
theorem See.far (h : See e w lo hi v n xs) (hg : w.grownBy w' u.ownBlock) (hu : Own e w lo' hi' u m ys) (hd : hi ≤ lo' ∨ hi' ≤ lo) : See e w' lo hi v n xs := h.imp id fun h => h.far hg hu hd
theorem See.len (h : See e w lo hi v n xs) : xs.length = n := h.elim (fun ⟨a, b⟩ => by omega) fun h => h.len
theorem See.bytes {p : Option Addr} {c : Nat} (h : See e w lo hi (.slice p n c) n xs) : BytesIn w p n xs := h.elim (fun ⟨a, b⟩ h0 => by omega) fun h => h.bytes
theorem See.ret (h : See e w lo hi v n xs) (θ : Nat → Question → Nat) : See e (World.ret w θ) lo hi v n xs := h
theorem See.like {w1 : World} (h : See e w lo hi v n xs) (l : Like w w1) : See e w1 lo hi v n xs := h.imp id fun h => h.like l
theorem Own.tee {p : Option Addr} {c : Nat} (h : Own e w lo hi (.slice p n c) n xs) (hb : ∀ x ∈ xs, 0 ≤ x ∧ x < 256) : BytesT w p n c xs := ⟨h.len, h.cap, hb, fun h0 => by
  obtain ⟨b, o, e1, hc⟩ := h.bytes h0
  refine ⟨b, o, e1, fun j u hj => ?_⟩
  have hj' := (List.getElem?_eq_some_iff.1 hj).1
  have hl := h.len
  have := hc j (by omega)
  rw [List.getD_eq_getElem?_getD, hj] at this
  exact this⟩
theorem Own.low (h : Own e w lo hi v n xs) {lo' : Nat} (hl : lo' ≤ lo) : Own e w lo' hi v n xs := by
  obtain ⟨⟨h1, h2⟩, h3⟩ := h
  exact ⟨⟨h1, h2.imp id fun ⟨g, cap, cur, e1, h4, h5⟩ => ⟨g, cap, cur, e1, Nat.le_trans hl h4, h5⟩⟩, h3⟩
end
theorem row_owns {u : World} {γ n rc : Nat} {xs : List Int} (h : u.heap[γ]? = some (.cells (xs.map (Value.int .u8) ++ zerV (rc - n)).toArray 5 (0, 0))) (hn : n ≤ rc) (hm : rc ≤ maxLen) (hl : xs.length = n) : u.ownsRow γ 5 1 (.slice (some ⟨γ, 0, none⟩) n rc) n (xs.map (Value.int .u8)) :=
  ⟨by simp [hl], .inr ⟨γ, rc, _, rfl, Nat.le_refl _, h, hn, hm, by simp [zerV, hl]; omega, by
    rw [Nat.mul_one, List.take_append_of_le_length (by simp [hl])]
    exact List.take_of_length_le (by simp [hl])⟩⟩
theorem BCalls.row {Al : Als} (T : TameA Tryd.prog Al) {f : FuncId} {x : Array Value} {n : Nat} {xs : List Int} {w : World} (hf : Al f = true) (hb : Al.b f = false) (hx : ∀ t, t < x.size → t < 200 → Al.f f t = false)
    (hC : ∀ θ w1, Below (World.ret w θ).heap.size (World.ret w θ) w1 → Calls Tryd.prog f x w1 fun e w2 => ∃ p c, e = .returned (.slice p n c) ∧ Own 5 w2 w1.heap.size w2.heap.size (.slice p n c) n xs ∧ Below w1.heap.size w1 w2) :
    BCalls Tryd.prog f x w fun v w2 => ∃ p c, v = .slice p n c ∧ Own 5 w2 w.heap.size w2.heap.size (.slice p n c) n xs ∧ Below w.heap.size w w2 :=
  BCalls.lone T hf hb hx fun θ w1 h1 => (hC θ w1 h1).mono fun e w2 ⟨p, c, h2, ho, h3⟩ => ⟨_, h2, fun w3 l t => ⟨p, c, rfl, by
    have ho' := (ho.like l).low (lo' := w.heap.size) h1.size
    obtain ⟨τ, d, rfl⟩ := l
    exact ho', l.below (θ := θ) t (below_on h1 h3)⟩⟩
def sealN (kn nn an bn : Nat) : Nat := if kn = 32 ∧ nn = 12 ∧ an ≤ 1500 ∧ bn ≤ 1500 then bn + 16 else 0
def sealB (kn nn an bn : Nat) : Bool := decide (kn = 32 ∧ nn = 12 ∧ an ≤ 1500 ∧ bn ≤ 1500)
def sealX (kn nn an bn : Nat) (KS NS AS BS : List Int) : List Int := if kn = 32 ∧ nn = 12 ∧ an ≤ 1500 ∧ bn ≤ 1500 then seaL KS NS AS BS else []
end Go.Proofs.YthjapmdikbmmkaaDoor

namespace Go.Proofs.YthjapmdikbmmkaaDoor
open Go Go.Conc Go.RowKit
set_option maxRecDepth 100000

theorem results_oneT {P : Program} {fn : Func} {t : Nat} (hres : fn.results = #[.tmp t]) (tmps : Array Value) (w : World) : (results fn tmps).runT P w #[] = (.ok (tmps.getD t undef) w, #[]) := by
  simp [results, hres]
theorem law_fin {W : World} {f : FuncId} {fn : Func} {t : Nat} {args : Array Value} (hfn : Tryd.prog.funcs[f]? = some fn) (hres : fn.results = #[.tmp t]) (hini : Tryd.prog.inits.idxOf? f = none)
    (hB : Bes Tryd.prog (fun g w1 => ∃ frE : Frame, g = G frE [] ∧ frE.mode = .returning ∧ frE.fn = f ∧ frE.defers = [] ∧ frE.kind = .normal ∧ frE.tmps.getD t undef = .bool true ∧ Lay W w1) (G (Frame.enter Tryd.prog f args .normal) []) W) :
    ∃ M last o w' t', runNT Tryd.prog (M + 1) (solo (G (Frame.enter Tryd.prog f args .normal) []) W) #[] = (.ended o w', t') ∧ runN Tryd.prog M (solo (G (Frame.enter Tryd.prog f args .normal) []) W) = .next last ∧ step Tryd.prog last = .ended o w' ∧ Go.Conc.Good Tryd.prog (fun v w1 => v = .bool true ∧ Below W.heap.size W w1) last o w' t' := by
  obtain ⟨N, gs1, w1, sl1, t1, hr, g1, q1, h0, ⟨frE, rfl, m1, m2, m4, m5, e2, hl⟩, hL, hP⟩ := hB #[G (Frame.enter Tryd.prog f args .normal) []] none #[] (fun _ => 0) rfl (LeavX.of_leavers (leavers_one _ _)) (past_nil.mono (Nat.zero_le _))
  have hend : ∀ w2, AtRel w1 w2 → AtEnd Tryd.prog (fun _ => False) w1.heap.size (fun v w' => v = .bool true ∧ Below W.heap.size W w') (G frE []) w2 := by
    rintro w2 ⟨d, rfl⟩
    have m3 : Tryd.prog.funcs[frE.fn]? = some fn := by rw [m2]; exact hfn
    refine ⟨rfl, .bool true, #[], ?_, by simp, rfl, hl.os, hl.tape, hl.output, hl.size, hl.heap⟩
    simp only [stepG, G, m1, unwind, m4, m3, results_oneT hres, e2, GStep.after, doReturn, m5]
    rw [m2, hini, if_neg (by decide), seen_none]
    rfl
  obtain ⟨N', last, o, w', t', e4, e5, e6, e7⟩ := beside_ends (P := Tryd.prog) (D := fun _ _ _ => False) (n := 0) (sl := sl1) (fun _ _ _ h => h.elim) h0 hL.leavers hP hend
  refine ⟨N + N', last, o, w', t', ?_, ?_, e6, e7⟩
  · rw [Nat.add_assoc, runNT_add]
    rw [show runNT Tryd.prog N (solo (G (Frame.enter Tryd.prog f args .normal) []) W) #[] = (.next (crowd gs1 w1 sl1), t1) from hr]
    exact e4
  · rw [runN_add]
    rw [show runN Tryd.prog N (solo (G (Frame.enter Tryd.prog f args .normal) []) W) = .next (crowd gs1 w1 sl1) by rw [← runNT_fst _ _ _ #[]]; exact congrArg Prod.fst hr]
    exact e5
end Go.Proofs.YthjapmdikbmmkaaDoor

namespace Go.Proofs.YthjapmdikbmmkaaDoor
open Go.RowKit
set_option maxRecDepth 100000

theorem cells_of_tab2 {H : Type} {enc : TypeId × Value → H} {P : Program} {w : World} {base : Nat} {sp : Nat → Bool} {held : Bool} {fuel : Nat} {t t2 e : TypeId} {n m : Nat} {k : IntKind} {cs : List Value} {zss : List (List Int)} {p : List MemPlace}
    (ht : P.underlying t = some (.array n t2)) (ht2 : P.underlying t2 = some (.array m e)) (he : P.underlying e = some (.int k)) (hce : P.cellsOf e = 1) (hc2 : P.cellsOf t2 = m)
    (h : DataW.trod enc P w base sp held fuel t cs = some (.agg (zss.map (Lib.tabData k)), p)) : ∀ i zs, zss[i]? = some zs → (cs.drop (i * m)).take m = zs.map fun z => Value.int k z := by
  cases fuel with
  | zero => simp [DataW.trod] at h
  | succ fuel =>
    simp only [DataW.trod, ht, hc2] at h
    split at h
    · obtain ⟨xs, hm, hx⟩ := Option.map_eq_some_iff.1 h
      have hxs : xs.map (·.1) = zss.map (Lib.tabData (H := H) k) := by
        have := congrArg Prod.fst hx
        simpa using this
      have hxl : xs.length = n := by simpa using Lib.mapM_length hm
      intro i zs hz
      have hi : i < n := by
        have h1 : i < zss.length := (List.getElem?_eq_some_iff.1 hz).1
        have := congrArg List.length hxs
        simp at this
        omega
      obtain ⟨b, hb, hf⟩ := Lib.mapM_at hm i i (by simp [hi])
      have h2 : (xs.map (·.1))[i]? = some b.1 := by simp [hb]
      rw [hxs, List.getElem?_map, hz] at h2
      have h3 : b = (Lib.tabData k zs, b.2) := by
        have := Option.some.inj h2
        rw [this]
      rw [h3] at hf
      exact Lib.cells_of_tab ht2 he hce hc2 hf
    · cases h

theorem places_of {W : World} {rest : List (String × DataW Unit)} (h : laidMet Tryd.prog (("loop.example/g00473/impl.quarterPlaces", .agg ((placesL.map castL).map (Lib.tabData .i64))) :: rest) W) : PlacesIs W := by
  obtain ⟨ps, ⟨g', t', cs, fuel, p, q, hg', ht', hvar, hd, _, _⟩, _⟩ := h
  have hg : Tryd.prog.globalNamed "loop.example/g00473/impl.quarterPlaces" = some 0 := by kernel_rfl
  have hty : (Tryd.prog.globals[0]?).map (·.type) = some 91 := by kernel_rfl
  obtain rfl := Option.some.inj (hg.symm.trans hg')
  obtain rfl := Option.some.inj (hty.symm.trans ht')
  have key := cells_of_tab2 Tryd.underlying91 Tryd.underlying90 Tryd.underlying3 (by kernel_rfl) (by kernel_rfl) hd
  intro j v hv
  have hj : j < 32 := (List.getElem?_eq_some_iff.1 hv).1
  have hc := World.var?_cell hg hvar j
  rw [Nat.zero_add, hc]
  obtain ⟨a, b, ha, hb, rfl⟩ : ∃ a b, a < 8 ∧ b < 4 ∧ j = a * 4 + b := ⟨j / 4, j % 4, by omega, by omega, by omega⟩
  have k1 := fun zs hz => congrArg (fun l : List Value => l[b]?) (key a zs hz)
  simp only [List.getElem?_take, List.getElem?_drop, if_pos hb] at k1
  have h8 : a = 0 ∨ a = 1 ∨ a = 2 ∨ a = 3 ∨ a = 4 ∨ a = 5 ∨ a = 6 ∨ a = 7 := by omega
  have h4 : b = 0 ∨ b = 1 ∨ b = 2 ∨ b = 3 := by omega
  have e : cs[a * 4 + b]? = cs.toList[a * 4 + b]? := by simp
  rw [e]
  clear e hc hvar hd key
  rcases h8 with rfl | rfl | rfl | rfl | rfl | rfl | rfl | rfl <;> rcases h4 with rfl | rfl | rfl | rfl <;> exact (k1 _ rfl).trans hv

end Go.Proofs.YthjapmdikbmmkaaDoor

namespace Go.Proofs.YthjapmdikbmmkaaDoor
open Go Go.Conc Go.RowKit
set_option maxRecDepth 100000

theorem arg_bytes {W : World} {base : Nat} {a : Option Addr} {len cap : Nat} {zs : List Int} (hok : Value.okWide Tryd.prog W .any base 22 (.slice a len cap))
    (h : (a = none ∧ len = 0 ∧ cap = 0 ∧ zs = []) ∨ ∃ x, a = some x ∧ len ≤ cap ∧ cap ≤ maxLen ∧ zs.length = cap ∧ (∀ i, i < zs.length → W.cell? (x.add i) = some (.int .u8 (zs.getD i 0))) ∧ ∀ n ∈ zs, (Lit.int .u8 n).wf = true) :
    BytesT W a len cap (zs.take len) := by
  rcases h with ⟨rfl, rfl, rfl, rfl⟩ | ⟨x, rfl, hl, hm, hz, hcell, hwz⟩
  · exact ⟨rfl, Nat.le_refl _, fun x hx => (by cases hx), fun h => absurd h (Nat.lt_irrefl 0)⟩
  · have hs : x.spot = none := by
      simp only [Value.okWide, Tryd.underlying22, Cell.okWide, Cell.ok] at hok
      obtain ⟨_, _, _, h1, _⟩ := hok
      exact h1
    obtain ⟨b, o, sp⟩ := x
    obtain rfl : sp = none := hs
    refine ⟨by simp; omega, hl, fun y hy => ?_, fun _ => ⟨b, o, rfl, fun j u hu => ?_⟩⟩
    · have := bounds_u8 (hwz y (List.mem_of_mem_take hy))
      omega
    · have hj := (List.getElem?_eq_some_iff.1 hu).1
      rw [List.length_take] at hj
      have := hcell j (by omega)
      rw [Addr.add_lit] at this
      rw [this]
      rw [List.getElem?_take, if_pos (by omega)] at hu
      rw [List.getD_eq_getElem?_getD, hu]
      rfl
theorem gr_of {W : World} (hsh : W.ShapedOpen Tryd.prog) (hP : PlacesIs W) : ∃ C e, Gr C e W := by
  have h1 : (((begin Tryd.prog (fun _ _ => 0) default).world.heap[0]?).bind Obj.row?).map (fun x => x.1.size) = some 32 := by kernel_rfl
  have hone : Tryd.prog.globals.size = 1 := by kernel_rfl
  have hzero : 0 = 0 := by decide
  have tabG : 0 < Tryd.prog.globals.size := by rw [hone]; decide
  obtain ⟨⟨zero, t⟩, h2, h3⟩ := Option.map_eq_some_iff.1 h1
  obtain ⟨cs, h4, h5, _⟩ := hsh.1 0 zero t tabG h2
  have hsz : cs.size = 32 := h5.trans h3
  have hcell : ∀ (j : Nat) v, placesC[j]? = some v → cs[j]? = some v := fun j v hv => by
    have := hP j v hv
    simpa only [World.cell?, h4, Option.isSome_none, Bool.false_eq_true, if_false, Nat.zero_add] using this
  have hps : placesC.toArray.size = 32 := by kernel_rfl
  have hfl : placesC.all flatC = true := by kernel_rfl
  refine ⟨cs, t, ⟨0, 0, h4, fun i _ h => absurd h (Nat.not_lt_zero _)⟩, fun v hv => ?_, hcell, fun b hb => ?_⟩
  · obtain ⟨j, hj, rfl⟩ := Array.mem_iff_getElem.1 hv
    have hj' : j < placesC.length := by
      have : placesC.length = 32 := by simpa using hps
      omega
    have := hcell j placesC[j] (List.getElem?_eq_getElem hj')
    rw [Array.getElem?_eq_getElem hj] at this
    rw [Option.some.inj this]
    exact List.all_eq_true.1 hfl _ (List.getElem_mem _)
  · obtain rfl : b = 0 := by omega
    exact ⟨_, hzero ▸ h4, rfl⟩
end Go.Proofs.YthjapmdikbmmkaaDoor

namespace Go.Proofs.YthjapmdikbmmkaaDoor
open Go Go.Conc
set_option maxRecDepth 100000

def bOp : Frame := { (default : Frame) with fn := 11, kind := .normal }
noncomputable def bodyOp : Code := Tryd.f11.body.getD .skip
theorem enter_Op (x y z u : Value) : Frame.enter Tryd.prog 11 #[x, y, z, u] .normal = bOp.at ⟨#[x, y, z, u] ++ Array.replicate 36 undef, []⟩ [.code bodyOp] := by
  simp [Frame.enter, Frame.at, bOp, bodyOp, Tryd.func11, Tryd.f11]
noncomputable def bodyO1 : Code := Tryd.f32.body.getD .skip
section
variable {Sh : Nat → Prop} {Stop : (Nat → Prop) → Goroutine → World → Prop} {M : Nat → Prop} {w : World}
theorem closeO_ret (R O : Nat) (c : Frame) (cs : List Frame) (hc : c.mode = .returning) (next : Co Tryd.prog true Sh Stop M (G c cs) w) :
    Co Tryd.prog true Sh Stop M (G ((baseD 32).at ⟨#[.pointer (some ⟨R, 0, none⟩), .pointer (some ⟨O, 0, none⟩), undef, undef], []⟩ [.code bodyO1]) (c :: cs)) w := by
  simp only [bodyO1, Tryd.f32, Option.getD_some]
  iterate 2 (first | with_reducible refine Co.ctlG (fun _ => by first | exact stepG_seq | exact stepG_skip | exact stepG_block | exact stepG_loop | exact stepG_inLoop | exact stepG_inBlock | exact stepG_region_end) ?_ | (with_reducible refine Co.ctlG (fun _ => stepG_region) ?_; (try simp only [List.size_toArray]); (try simp only [List.length_cons]); (try simp only [List.length_nil]); (try simp only [Nat.zero_add]); (try simp only [Nat.reduceAdd]); (try simp only [List.range]); (try simp only [List.range.loop])))
  refine Co.ctlG (fun _ => stepG_recover_none rfl rfl rfl rfl hc) ?_
  walk_nrm
  refine Co.value (v := .bool false) rfl rfl (by decide) (fun _ => by simp [go_sem, execOp, Act.eval]) (fun _ => by first | rfl | kernel_rfl) ?_
  walk_nrm
  (first | with_reducible refine Co.ctlG (fun _ => by first | exact stepG_seq | exact stepG_skip | exact stepG_block | exact stepG_loop | exact stepG_inLoop | exact stepG_inBlock | exact stepG_region_end) ?_ | (with_reducible refine Co.ctlG (fun _ => stepG_region) ?_; (try simp only [List.size_toArray]); (try simp only [List.length_cons]); (try simp only [List.length_nil]); (try simp only [Nat.zero_add]); (try simp only [Nat.reduceAdd]); (try simp only [List.range]); (try simp only [List.range.loop])))
  refine Co.ctlG (fun _ => stepG_cond (t := false) rfl) ?_
  simp only [Bool.false_eq_true, if_false]
  (first | with_reducible refine Co.ctlG (fun _ => by first | exact stepG_seq | exact stepG_skip | exact stepG_block | exact stepG_loop | exact stepG_inLoop | exact stepG_inBlock | exact stepG_region_end) ?_ | (with_reducible refine Co.ctlG (fun _ => stepG_region) ?_; (try simp only [List.size_toArray]); (try simp only [List.length_cons]); (try simp only [List.length_nil]); (try simp only [Nat.zero_add]); (try simp only [Nat.reduceAdd]); (try simp only [List.range]); (try simp only [List.range.loop])))
  refine Co.ctlG (fun _ => stepG_end0) ?_
  exact .ctl rfl (fun w1 => stepG_leave_deferred rfl rfl Tryd.func32 (by simp [results, Tryd.f32]; rfl) (by simp [results, Tryd.f32]) hc) next
theorem closeO_pan (R O : Nat) (t : ByteArray) (zo : Bool) (c : Frame) (cs : List Frame) (hc : c.mode = .panicking (pan t)) (hR : w.heap[R]? = some (.cells #[.slice none 0 0] 22 (0, 0))) (hO : w.heap[O]? = some (.cells #[.bool zo] 4 (0, 0))) (hRO : R ≠ O) (hMR : M R) (hMO : M O) (hSR : ¬ Sh R) (hSO : ¬ Sh O) (hSw : ∀ b, Sh b → b < w.heap.size) (hlow : ∀ b, M b → b < w.heap.size)
    (next : ∀ w2, w2.heap[R]? = some (.cells #[.slice none 0 0] 22 (0, 0)) → w2.heap[O]? = some (.cells #[.bool false] 4 (0, 0)) → (∀ b, M b → b ≠ R → b ≠ O → w2.heap[b]? = w.heap[b]?) → w.heap.size ≤ w2.heap.size → w2.os = w.os → w2.output = w.output → w2.tape = w.tape → Co Tryd.prog true Sh Stop M (G { c with mode := .returning } cs) w2) :
    Co Tryd.prog true Sh Stop M (G ((baseD 32).at ⟨#[.pointer (some ⟨R, 0, none⟩), .pointer (some ⟨O, 0, none⟩), undef, undef], []⟩ [.code bodyO1]) (c :: cs)) w := by
  simp only [bodyO1, Tryd.f32, Option.getD_some]
  iterate 2 (first | with_reducible refine Co.ctlG (fun _ => by first | exact stepG_seq | exact stepG_skip | exact stepG_block | exact stepG_loop | exact stepG_inLoop | exact stepG_inBlock | exact stepG_region_end) ?_ | (with_reducible refine Co.ctlG (fun _ => stepG_region) ?_; (try simp only [List.size_toArray]); (try simp only [List.length_cons]); (try simp only [List.length_nil]); (try simp only [Nat.zero_add]); (try simp only [Nat.reduceAdd]); (try simp only [List.range]); (try simp only [List.range.loop])))
  refine Co.ctlG (fun _ => stepG_recover_some (older := []) rfl rfl rfl rfl hc) ?_
  walk_nrm
  refine Co.value (v := .bool true) rfl rfl (by decide) (fun _ => by simp [go_sem, execOp, Act.eval]) (fun _ => by first | rfl | kernel_rfl) ?_
  walk_nrm
  (first | with_reducible refine Co.ctlG (fun _ => by first | exact stepG_seq | exact stepG_skip | exact stepG_block | exact stepG_loop | exact stepG_inLoop | exact stepG_inBlock | exact stepG_region_end) ?_ | (with_reducible refine Co.ctlG (fun _ => stepG_region) ?_; (try simp only [List.size_toArray]); (try simp only [List.length_cons]); (try simp only [List.length_nil]); (try simp only [Nat.zero_add]); (try simp only [Nat.reduceAdd]); (try simp only [List.range]); (try simp only [List.range.loop])))
  refine Co.ctlG (fun _ => stepG_cond (t := true) rfl) ?_
  simp only [if_true]
  (first | with_reducible refine Co.ctlG (fun _ => by first | exact stepG_seq | exact stepG_skip | exact stepG_block | exact stepG_loop | exact stepG_inLoop | exact stepG_inBlock | exact stepG_region_end) ?_ | (with_reducible refine Co.ctlG (fun _ => stepG_region) ?_; (try simp only [List.size_toArray]); (try simp only [List.length_cons]); (try simp only [List.length_nil]); (try simp only [Nat.zero_add]); (try simp only [Nat.reduceAdd]); (try simp only [List.range]); (try simp only [List.range.loop])))
  refine Co.storeOne (N := fun b => b = R) (β := R) (z := .slice none 0 0) (v := .slice none 0 0) (e := 22) rfl rfl (by decide) rfl rfl rfl hR rfl (fun b hb => hb ▸ hMR) (fun b hs hb => hSR (hb ▸ hs)) hSw hlow .sliceNil rfl (by kernel_rfl) (mine_one hR rfl) fun w1 hk1 => ?_
  walk_nrm
  have z1 := hk1.size
  have zs : (w1.setRow R #[.slice none 0 0]).heap.size = w1.heap.size := by simp [World.setRow]
  have hO1 : (w1.setRow R #[.slice none 0 0]).heap[O]? = some (.cells #[.bool zo] 4 (0, 0)) := (setRow_other _ _ _ _ hRO.symm).trans ((hk1.heap O hMO).trans hO)
  refine Co.storeOne (N := fun b => b = O) (β := O) (z := .bool zo) (v := .bool false) (e := 4) rfl rfl (by decide) rfl rfl rfl hO1 rfl (fun b hb => hb ▸ hMO) (fun b hs hb => hSO (hb ▸ hs)) (fun b hb => by have := hSw b hb; omega) (fun b hb => by have := hlow b hb; omega) (.bool false) rfl (by kernel_rfl) (mine_one hO1 rfl) fun w3 hk3 => ?_
  walk_nrm
  (first | with_reducible refine Co.ctlG (fun _ => by first | exact stepG_seq | exact stepG_skip | exact stepG_block | exact stepG_loop | exact stepG_inLoop | exact stepG_inBlock | exact stepG_region_end) ?_ | (with_reducible refine Co.ctlG (fun _ => stepG_region) ?_; (try simp only [List.size_toArray]); (try simp only [List.length_cons]); (try simp only [List.length_nil]); (try simp only [Nat.zero_add]); (try simp only [Nat.reduceAdd]); (try simp only [List.range]); (try simp only [List.range.loop])))
  refine Co.ctlG (fun _ => stepG_end0) ?_
  refine .ctl rfl (fun w4 => stepG_leave_recovered rfl rfl Tryd.func32 (by simp [results, Tryd.f32]; rfl) (by simp [results, Tryd.f32]) rfl) ?_
  have z3 := hk3.size
  have hR1 : (w1.setRow R #[.slice none 0 0]).heap[R]? = some (.cells #[.slice none 0 0] 22 (0, 0)) := setRow_heap _ _ _ _ _ _ ((hk1.heap R hMR).trans hR)
  refine next _ ?_ ?_ (fun b hb h1 h2 => ?_) ?_ ?_ ?_ ?_
  · exact (setRow_other _ _ _ _ hRO).trans ((hk3.heap R hMR).trans hR1)
  · exact setRow_heap _ _ _ _ _ _ ((hk3.heap O hMO).trans hO1)
  · rw [setRow_other _ _ _ _ h2, hk3.heap b hb, setRow_other _ _ _ _ h1, hk1.heap b hb]
  · show w.heap.size ≤ (w3.setRow O #[.bool false]).heap.size
    have : (w3.setRow O #[.bool false]).heap.size = w3.heap.size := by simp [World.setRow]
    omega
  · exact hk3.os.trans hk1.os
  · exact hk3.output.trans hk1.output
  · exact hk3.tape.trans hk1.tape
end

def waitOp (R O : Nat) : List Deferred := [dval 32 #[.pointer (some ⟨R, 0, none⟩), .pointer (some ⟨O, 0, none⟩)]]
theorem results_Op (tmps : Array Value) (R O : Nat) (h8 : tmps.getD 8 undef = .pointer (some ⟨R, 0, none⟩)) (h9 : tmps.getD 9 undef = .pointer (some ⟨O, 0, none⟩)) : results Tryd.f11 tmps = (do let v ← loadVar 22 ⟨R, 0, none⟩; let u ← loadVar 4 ⟨O, 0, none⟩; pure (.tuple #[v, u])) := by
  unfold results
  have e : Tryd.f11.results = #[.cell 8 22, .cell 9 4] := rfl
  rw [e, Array.mapM_eq_mapM_toList]
  rw [Array.getD_eq_getD_getElem?] at h8 h9
  simp [h8, h9, asAddr]
theorem unwindOp {m : FrameMode} {a : Act} {R O : Nat} {todo : List Item} {cs : List Frame} {w : World} {main : Bool} {b : Frame} (hm : m ≠ .run) (hd : a.defers = waitOp R O) : stepG Tryd.prog main (G { b.at a todo with mode := m } cs) w = .go (G ((baseD 32).at ⟨#[.pointer (some ⟨R, 0, none⟩), .pointer (some ⟨O, 0, none⟩), undef, undef], []⟩ [.code bodyO1]) ({ b.at ⟨a.tmps, []⟩ todo with mode := m } :: cs)) w #[] :=
  stepG_unwindV (c := bodyO1) hm hd Tryd.func32 (by kernel_rfl) rfl
section
variable {Sh : Nat → Prop} {Stop : (Nat → Prop) → Goroutine → World → Prop} {M : Nat → Prop} {w : World}
theorem out_Op (tmps : Array Value) (todo : List Item) (R O : Nat) (v : Value) (ok : Bool) (T : Nat → Prop) (c : Frame) (cs : List Frame) (h8 : tmps.getD 8 undef = .pointer (some ⟨R, 0, none⟩)) (h9 : tmps.getD 9 undef = .pointer (some ⟨O, 0, none⟩))
    (hR : w.heap[R]? = some (.cells #[v] 22 (0, 0))) (hO : w.heap[O]? = some (.cells #[.bool ok] 4 (0, 0))) (hT : ∀ b, T b → M b) (hTR : T R) (hTO : T O) (hTS : ∀ b, Sh b → ¬ T b) (hSw : ∀ b, Sh b → b < w.heap.size) (hm : ∀ b, T b → ∃ o, w.heap[b]? = some o ∧ RelO (idr T 0 fun _ => False) 0 o o)
    (next : Co Tryd.prog true Sh Stop M (G (c.finish (.tuple #[v, .bool ok])) cs) w) :
    Co Tryd.prog true Sh Stop M (G { bOp.at ⟨tmps, []⟩ todo with mode := .returning } (c :: cs)) w := by
  refine Co.leaves (N := T) (n := 0) (A := fun _ => False) rfl rfl Tryd.func11 hT ?_ (fun w4 hk4 => ⟨fun b hb => ?_, fun b hs hb => absurd hb (hTS b hs), fun b hb => Nat.lt_of_lt_of_le (hSw b hb) hk4.size, Nat.zero_le _⟩) (fun w4 hk4 => ?_) next
  · rw [results_Op _ R O h8 h9]
    refine (sim_loadVar (show RelA (idr T 0 fun _ => False) ⟨R, 0, none⟩ ⟨R, 0, none⟩ from ⟨⟨rfl, hTR⟩, rfl, rfl, fun _ => rfl, Nat.zero_le _⟩) 22).bd fun ρ1 u u' hle hu => ?_
    refine (sim_loadVar (show RelA ρ1 ⟨O, 0, none⟩ ⟨O, 0, none⟩ from RelA.mono hle ⟨⟨rfl, hTO⟩, rfl, rfl, fun _ => rfl, Nat.zero_le _⟩) 4).bd fun ρ2 x x' hle2 hx => .pr (.tuple rfl fun i y y' g1 g2 => ?_)
    match i with
    | 0 => cases g1; cases g2; exact hu.mono hle2
    | 1 => cases g1; cases g2; exact hx
    | i + 2 => cases g1
  · obtain ⟨o1, g1, g2⟩ := hm b hb
    exact ⟨o1, (hk4.heap _ (hT _ hb)).trans g1, g2⟩
  · rw [results_Op _ R O h8 h9]
    have e1 : (loadVar 22 ⟨R, 0, none⟩).run Tryd.prog w4 = .ok v w4 := run_loadVar_one ((hk4.heap R (hT R hTR)).trans hR) Tryd.underlying22 rfl
    have e2 : (loadVar 4 ⟨O, 0, none⟩).run Tryd.prog w4 = .ok (.bool ok) w4 := run_loadVar_one ((hk4.heap O (hT O hTO)).trans hO) Tryd.underlying4 rfl
    simp [e1, e2]
end

end Go.Proofs.YthjapmdikbmmkaaDoor

namespace Go.Proofs.YthjapmdikbmmkaaDoor
open Go Go.Conc Go.RowKit
set_option maxRecDepth 100000

section
variable {Q : Goroutine → World → Prop} {w : World}
theorem sizes_b (kp np ap : Option Addr) (kn kc nn nc an ac : Nat) (pl : Int) (c : Frame) (cs : List Frame) (hc : c.mode = .run) (yes : SizesOk kn nn an pl → BesB Tryd.prog Q (G (c.finish undef) cs) w) (no : ¬ SizesOk kn nn an pl → ∀ s, BesB Tryd.prog Q (G { c with mode := .panicking (pan s) } cs) w) :
    BesB Tryd.prog Q (G (Frame.enter Tryd.prog 25 #[.slice kp kn kc, .slice np nn nc, .slice ap an ac, .int .i64 pl] .normal) (c :: cs)) w := fun w1 hG hl =>
  (Bes.of_co (Sh := fun _ => False) (M := fun b => b < w1.heap.size) (Stop := fun _ g2 w2 => Lay w1 w2 ∧ ((SizesOk kn nn an pl ∧ g2 = G (c.finish undef) cs) ∨ (¬ SizesOk kn nn an pl ∧ ∃ s, g2 = G { c with mode := .panicking (pan s) } cs)))
    (sizes_R kp np ap kn kc nn nc an ac pl c cs hc (fun hok => .stop fun w2 hk => ⟨hk, .inl ⟨hok, rfl⟩⟩) (fun hno s => .stop fun w2 hk => ⟨hk, .inr ⟨hno, s, rfl⟩⟩)) (fun b h => h) fun _ _ _ h _ => h).bind fun g w2 ⟨hl2, h⟩ => by
    have hG2 := cells_keeps hG hl2.heap
    have hb := below_on hl hl2.below
    rcases h with ⟨h1, rfl⟩ | ⟨h1, s, rfl⟩
    · exact yes h1 w2 hG2 hb
    · exact no h1 s w2 hG2 hb
theorem want_b (t : Bool) (s : ByteArray) (c : Frame) (cs : List Frame) (hc : c.mode = .run) (yes : t = true → BesB Tryd.prog Q (G (c.finish undef) cs) w) (no : t = false → BesB Tryd.prog Q (G { c with mode := .panicking (pan s) } cs) w) :
    BesB Tryd.prog Q (G (Frame.enter Tryd.prog 33 #[.bool t, .string s] .normal) (c :: cs)) w := fun w1 hG hl => by
  cases t with
  | true =>
    exact (Bes.of_co (Sh := fun _ => False) (M := fun b => b < w1.heap.size) (Stop := fun _ g2 w2 => Lay w1 w2 ∧ g2 = G (c.finish undef) cs) (want_yes s c cs (.stop fun w2 hk => ⟨hk, rfl⟩)) (fun b h => h) fun _ _ _ h _ => h).bind fun g w2 ⟨hl2, h⟩ => by
      subst h
      exact yes rfl w2 (cells_keeps hG hl2.heap) (below_on hl hl2.below)
  | false =>
    exact (Bes.of_co (Sh := fun _ => False) (M := fun b => b < w1.heap.size) (Stop := fun _ g2 w2 => Lay w1 w2 ∧ g2 = G { c with mode := .panicking (pan s) } cs) (want_no s c cs hc (.stop fun w2 hk => ⟨hk, rfl⟩)) (fun b h => h) fun _ _ _ h _ => h).bind fun g w2 ⟨hl2, h⟩ => by
      subst h
      exact no rfl w2 (cells_keeps hG hl2.heap) (below_on hl hl2.below)
structure But (R O : Nat) (w w2 : World) : Prop where
  heap : ∀ b, b < w.heap.size → b ≠ R → b ≠ O → w2.heap[b]? = w.heap[b]?
  size : w.heap.size ≤ w2.heap.size
  os : w2.os = w.os
  output : w2.output = w.output
  tape : w2.tape = w.tape
theorem But.cells {n R O : Nat} {w w2 : World} (h : But R O w w2) (hG : CellsTo n w) (hR : n ≤ R) (hO : n ≤ O) : CellsTo n w2 := fun b hb => by
  obtain ⟨o, h1, h2⟩ := hG b hb
  exact ⟨o, (h.heap b (Array.getElem?_eq_some_iff.1 h1).1 (by omega) (by omega)).trans h1, h2⟩
theorem But.below {R O : Nat} {w0 w w2 : World} (h : But R O w w2) (k : Below w0.heap.size w0 w) (hR : w0.heap.size ≤ R) (hO : w0.heap.size ≤ O) : Below w0.heap.size w0 w2 :=
  ⟨h.os.trans k.os, h.tape.trans k.tape, h.output.trans k.output, Nat.le_trans k.size h.size, fun b hb => (h.heap b (Nat.lt_of_lt_of_le hb k.size) (by omega) (by omega)).trans (k.block b hb)⟩
theorem But.on {R O : Nat} {w w1 w2 : World} (h : But R O w1 w2) (k : Below w.heap.size w w1) : But R O w w2 :=
  ⟨fun b hb h1 h2 => (h.heap b (Nat.lt_of_lt_of_le hb k.size) h1 h2).trans (k.block b hb), Nat.le_trans k.size h.size, h.os.trans k.os, h.output.trans k.output, h.tape.trans k.tape⟩
theorem refuse_b (tmps : Array Value) (todo : List Item) (R O : Nat) (s : ByteArray) (zo : Bool) (c : Frame) (cs : List Frame) (h8 : tmps.getD 8 undef = .pointer (some ⟨R, 0, none⟩)) (h9 : tmps.getD 9 undef = .pointer (some ⟨O, 0, none⟩))
    (hR : w.heap[R]? = some (.cells #[.slice none 0 0] 22 (0, 0))) (hO : w.heap[O]? = some (.cells #[.bool zo] 4 (0, 0))) (hRO : R ≠ O) (gR : Tryd.prog.globals.size ≤ R) (gO : Tryd.prog.globals.size ≤ O)
    (next : ∀ w2, But R O w w2 → BesB Tryd.prog Q (G (c.finish (.tuple #[.slice none 0 0, .bool false])) cs) w2) :
    BesB Tryd.prog Q (G { bOp.at ⟨tmps, waitOp R O⟩ todo with mode := .panicking (pan s) } (c :: cs)) w := fun w1 hG hl => by
  have lR := (Array.getElem?_eq_some_iff.1 hR).1
  have lO := (Array.getElem?_eq_some_iff.1 hO).1
  have hR1 := (hl.block R lR).trans hR
  have hO1 := (hl.block O lO).trans hO
  have lR1 := (Array.getElem?_eq_some_iff.1 hR1).1
  have lO1 := (Array.getElem?_eq_some_iff.1 hO1).1
  refine (Bes.of_co (Sh := fun _ => False) (M := fun b => b < w1.heap.size) (Stop := fun _ g2 w2 => But R O w1 w2 ∧ g2 = G (c.finish (.tuple #[.slice none 0 0, .bool false])) cs) (.ctlG (fun _ => unwindOp (R := R) (O := O) (by simp) rfl) (closeO_pan R O s zo _ _ rfl hR1 hO1 hRO lR1 lO1 (fun h => h) (fun h => h) (fun b h => h.elim) (fun b h => h) fun w5 h1 h2 h3 h4 h5 h6 h7 => out_Op _ _ R O (.slice none 0 0) false (fun b => b = R ∨ b = O) c cs h8 h9 h1 h2 (fun b hb => ?_) (.inl rfl) (.inr rfl) (fun b hs => hs.elim) (fun b hs => hs.elim) (fun b hb => ?_) (.stop fun w6 hk6 => ⟨⟨fun b hb n1 n2 => (hk6.heap b hb).trans (h3 b hb n1 n2), Nat.le_trans h4 hk6.size, hk6.os.trans h5, hk6.output.trans h6, hk6.tape.trans h7⟩, rfl⟩))) (fun b h => h) fun _ _ _ h _ => h).bind fun g w2 ⟨hb, h⟩ => ?_
  · rcases hb with rfl | rfl
    · exact lR1
    · exact lO1
  · rcases hb with rfl | rfl
    · exact ⟨_, h1, relO_flatF fun v hv => by rw [Array.mem_singleton.1 hv]; rfl⟩
    · exact ⟨_, h2, relO_flatF fun v hv => by rw [Array.mem_singleton.1 hv]; rfl⟩
  · subst h
    exact next w2 (hb.on hl) w2 (hb.cells hG gR gO) (.refl _ _)
end
end Go.Proofs.YthjapmdikbmmkaaDoor
