/-
  What both sides' RouteOf answers at any bytes and any epoch, and FnExactRouteOf. Conditions: bytes all; for the program the table of the rounds' numbers is as its text says.
-/
import Derived.Test.YtdjdanpicbaieaaDoorSpecMac
import Derived.Test.YtdjdanpicbaieaaDoorMac
import Derived.Test.YtdjdanpicbaieaaDoorKeysOf
import Derived.Test.YtdjdanpicbaieaaDoorEpoch
import Derived.Test.YtdjdanpicbaieaaDoorHex
import Derived.Test.YtdjdanpicbaieaaDoorTo
import Derived.Test.YtdjdanpicbaieaaDoorEq
namespace Go.Proofs.YtdjdanpicbaieaaDoor
open Go.RowKit
set_option maxRecDepth 100000

/-- A route's signs. -/
def rouL (xs : List Int) (e : Int) : List Int := if hasB xs.length e then hexL ((macL xs (tellL routeL e)).take 8) else []
theorem rouL_yes {xs : List Int} {e : Int} (h : hasB xs.length e = true) : rouL xs e = hexL ((macL xs (tellL routeL e)).take 8) := if_pos h
theorem rouL_no {xs : List Int} {e : Int} (h : hasB xs.length e = false) : rouL xs e = [] := by rw [rouL, h]; rfl
def routeS : ByteArray := ⟨#[114, 111, 117, 116, 101]⟩
theorem routeS_nums : numsOf routeS = routeL := by decide
theorem mac_seven : macN 32 7 = 32 := rfl
theorem macR_byte (xs ys : List Int) : ∀ x ∈ macL xs ys, 0 ≤ x ∧ x < 256 := macL_byte xs ys
theorem slice_8 (p : Option Addr) (c : Nat) (hc : 32 ≤ c) : (∀ W, (Instr.slice 22 (.slice p 32 c) none (some (.int .i64 8)) none).run Tryd.prog W = .ok (.slice p 8 c) W) := fun W => by
  have ht' : Tryd.prog.underlying 22 = some (.slice (Tryd.prog.elem 22)) := by simp [Program.elem, Tryd.underlying22]
  have he : Tryd.prog.elem 22 = 5 := by simp [Program.elem, Tryd.underlying22]
  obtain ⟨i0, hi, hz0, hz1, hz2⟩ := info_parts infoByte
  have := run_slice_h W 22 p 32 c ht' .i64 8 (by omega) (by omega)
  refine this.trans ?_
  rw [he]
  cases p <;> simp [sizeOf, typeInfo, hi, sliced, Addr.add]
theorem in_8 {w : World} {p : Option Addr} {xs : List Int} (h : BytesIn w p 32 xs) : BytesIn w p 8 (xs.take 8) := fun _ => by
  obtain ⟨b, o, rfl, hc⟩ := h (by omega)
  refine ⟨b, o, rfl, fun i hi => ?_⟩
  rw [hc i (by omega)]
  simp [List.getD_eq_getElem?_getD, hi]

set_option maxHeartbeats 2000000 in
theorem implRoute_any (p : Option Addr) (n c : Nat) (xs : List Int) (e : Int) (w : World) (hx : xs.length = n) (h : BytesIn w p n xs) (hb : ∀ x ∈ xs, 0 ≤ x ∧ x < 256) (hK : KeysIs w) :
    Calls Tryd.prog 13 #[.slice p n c, .int .i64 e] w fun r w' => r = .returned (.string (strOfNums (rouL xs e))) ∧ Below w.heap.size w w' := by
  have hnot : ∀ (x : Bool) (w : World), (Op.unary .not (.bool x)).run Tryd.prog w = .ok (.bool (!x)) w := fun _ _ => rfl
  have CH := fun X => hasKeys_any p n c e X
  by_cases hh : n = 32 ∧ 0 ≤ e ∧ e ≤ 40
  · rw [rouL_yes (by rw [hx]; exact hasB_yes hh)]
    rw [hasB_yes hh] at CH
    obtain ⟨rfl, he⟩ := hh
    have hel := tellL_length (info := routeL) rfl he
    have CE := fun X => ofEpoch_any routeS e X rfl he
    rw [routeS_nums] at CE
    have heb := tellL_byte routeL_byte e
    generalize tellL routeL e = TL at CE hel heb ⊢
    have CM := fun (pc : Option Addr) (cc : Nat) (X : World) (hX : Below w.heap.size w X) (hc : BytesIn X pc 7 TL) => implMac_any p pc 32 7 c cc xs TL X hx hel (in_below h hX) hc hb heb (keys_below hK hX)
    rw [mac_seven] at CM
    have hml : (macL xs TL).length = 32 := by rw [macL_length, hx, hel]; rfl
    have hmb := macR_byte xs TL
    generalize macL xs TL = ML at CM hml hmb ⊢
    have htl : (ML.take 8).length = 8 := by rw [List.length_take, hml]; rfl
    have htb : ∀ x ∈ ML.take 8, 0 ≤ x ∧ x < 256 := fun x hx => hmb x (List.mem_of_mem_take hx)
    go_enter Tryd.func13, Tryd.ntmps13
    go_wp2_with (first
      | (go_at_call 32; refine (CH _).mono ?_; rintro r w1 ⟨rfl, rfl⟩)
      | (go_at_call 38; refine (CE _).mono ?_; rintro r w2 ⟨p2, c2, rfl, r2, b2⟩)
      | (go_at_call 37; refine (CM p2 c2 _ b2 r2.bytes).mono ?_; rintro r w3 ⟨p3, c3, rfl, r3, b3⟩; have k3 := below_on b2 b3; have sl := slice_8 p3 c3 r3.cap; have i8 := in_8 r3.bytes)
      | (go_at_call 36; refine (implHex_any p3 8 c3 (ML.take 8) _ (by decide) htl i8 htb).mono ?_; rintro r w4 ⟨rfl, b4⟩))
    go_ret
    exact ⟨rfl, below_on k3 b4⟩
  · rw [rouL_no (by rw [hx]; exact hasB_no hh)]
    rw [hasB_no hh] at CH
    go_enter Tryd.func13, Tryd.ntmps13
    go_wp2_with (go_at_call 32; refine (CH _).mono ?_; rintro r w1 ⟨rfl, rfl⟩)
    go_ret
    exact ⟨rfl, Below.refl _ _⟩

set_option maxHeartbeats 4000000 in
theorem specRoute_any (p : Option Addr) (n c : Nat) (xs : List Int) (e : Int) (w : World) (hx : xs.length = n) (h : BytesIn w p n xs) (hb : ∀ x ∈ xs, 0 ≤ x ∧ x < 256) :
    Calls Tryd.prog 12 #[.slice p n c, .int .i64 e] w fun r w' => r = .returned (.string (strOfNums (rouL xs e))) ∧ Below w.heap.size w w' := by
  have hnot : ∀ (x : Bool) (w : World), (Op.unary .not (.bool x)).run Tryd.prog w = .ok (.bool (!x)) w := fun _ _ => rfl
  have CI := fun X => l1In_any e 0 40 X
  by_cases hn : n = 32
  · subst hn
    by_cases he : 0 ≤ e ∧ e ≤ 40
    · rw [rouL_yes (by rw [hx]; exact hasB_yes ⟨rfl, he⟩)]
      rw [decide_eq_true he] at CI
      obtain ⟨i0, hi, hz0, hz1, hz2⟩ := info_parts infoByte
      have hel := tellL_length (info := routeL) rfl he
      have heb := tellL_byte routeL_byte e
      have CG := fun X => specGreat_any e 2 X (by omega)
      rw [fitE_two he] at CG
      have hgl : (fitL e 2).reverse.length = 2 := by rw [List.length_reverse, fitE_len he]
      unfold tellL at hel heb ⊢
      generalize (fitL e 2).reverse = GL at CG hgl hel heb ⊢
      have CM := fun (pc : Option Addr) (cc : Nat) (X : World) (hX : Below w.heap.size w X) (hc : BytesIn X pc 7 (routeL ++ GL)) => specMac_any p pc 32 7 c cc xs (routeL ++ GL) X hx hel (in_below h hX) hc hb heb
      rw [mac_seven] at CM
      have hml : (macL xs (routeL ++ GL)).length = 32 := by rw [macL_length, hx, hel]; rfl
      have hmb := macR_byte xs (routeL ++ GL)
      generalize macL xs (routeL ++ GL) = ML at CM hml hmb ⊢
      have htl : (ML.take 8).length = 8 := by rw [List.length_take, hml]; rfl
      have htb : ∀ x ∈ ML.take 8, 0 ≤ x ∧ x < 256 := fun x hx => hmb x (List.mem_of_mem_take hx)
      have kc := fun (W : World) (C : Array Value) (n c : Nat) => Lib.run_convert_bytes_const (P := Tryd.prog) W 22 5 C n c Tryd.underlying22 Tryd.underlying5
      have hlit := lit_in w 5 (5, 6) 114 111 117 116 101
      have bl : Below w.heap.size w (w.alloc (.cells #[.int .u8 114, .int .u8 111, .int .u8 117, .int .u8 116, .int .u8 101] 5 (5, 6))) := made_below _ _ (Below.refl _ _)
      obtain ⟨W1, hW1⟩ : ∃ W1, W1 = w.alloc (.cells #[.int .u8 114, .int .u8 111, .int .u8 117, .int .u8 116, .int .u8 101] 5 (5, 6)) := ⟨_, rfl⟩
      rw [← hW1] at hlit bl
      replace hW1 : Hid (w.alloc (.cells #[.int .u8 114, .int .u8 111, .int .u8 117, .int .u8 116, .int .u8 101] 5 (5, 6)) = W1) := hW1.symm
      clear h hb
      go_enter Tryd.func12, Tryd.ntmps12
      go_wp2_with (first
        | (go_at_call 29; refine (CI _).mono ?_; rintro r w0 ⟨rfl, rfl⟩)
        | rw [hW1.out]
        | (go_at_call 31; refine (CG _).mono ?_; rintro r w2 ⟨p2, c2, rfl, r2, b2⟩; have hlit2 := in_below hlit b2; have r2b := r2.bytes; have k2 := below_on bl b2)
        | (at_builtin; refine list_grows hi hz0 hz1 hz2 (.tmp 15) (.tmp 17) 22 Tryd.underlying22 hlit2 rfl (by decide) r2b hgl (by decide) (by decide) (by rfl) (by rfl) (by rfl) (by rfl) ?_; intro p3 c3 w3 r3 b3; have k3 := below_on k2 b3)
        | (go_at_call 35; refine (CM p3 c3 _ k3 r3.bytes).mono ?_; rintro r w4 ⟨p4, c4, rfl, r4, b4⟩; have k4 := below_on k3 b4; have sl := slice_8 p4 c4 r4.cap; have i8 := in_8 r4.bytes)
        | (go_at_call 34; refine (specHex_any p4 8 c4 (ML.take 8) _ (by decide) htl i8 htb).mono ?_; rintro r w5 ⟨rfl, b5⟩))
      go_ret
      exact ⟨rfl, below_on k4 b5⟩
    · rw [rouL_no (by rw [hx]; exact hasB_no (fun x => he x.2))]
      rw [decide_eq_false he] at CI
      go_enter Tryd.func12, Tryd.ntmps12
      go_wp2_with (go_at_call 29; refine (CI _).mono ?_; rintro r w0 ⟨rfl, rfl⟩)
      go_ret
      exact ⟨rfl, Below.refl _ _⟩
  · have hd : ((n : Int) != 32) = true := by simp; omega
    rw [rouL_no (by rw [hx]; exact hasB_no (fun x => hn x.1))]
    go_enter Tryd.func12, Tryd.ntmps12
    go_wp2
    go_ret
    exact ⟨rfl, Below.refl _ _⟩

set_option maxHeartbeats 4000000 in
theorem routeOf_small (p : Option Addr) (n q : Nat) (ep : Int) (xs : List Int) (w : World) (hn : n ≤ 1048576) (hx : xs.length = n) (h : BytesIn w p n xs) (hb : ∀ x ∈ xs, 0 ≤ x ∧ x < 256) (hK : KeysIs w) :
    Calls Tryd.prog 4 #[.slice p n q, .int .i64 ep] w fun e w' => e = .returned (.bool true) ∧ Below w.heap.size w w' := by
  have c1 : ¬ (1048576 : Int) < (n : Int) := by omega
  have CS := fun (p : Option Addr) (c : Nat) (X : World) (hp : BytesIn X p n xs) => specRoute_any p n c xs ep X hx hp hb
  have CI := fun (p : Option Addr) (c : Nat) (X : World) (hp : BytesIn X p n xs) (hX : Below w.heap.size w X) => implRoute_any p n c xs ep X hx hp hb (keys_below hK hX)
  generalize strOfNums (rouL xs ep) = S at CS CI
  go_enter Tryd.func4, Tryd.ntmps4
  go_wp2_with (fail)
  refine (toByteS_own p n q xs _ hn hx h).mono ?_
  rintro e w1 ⟨pr1, cr1, rfl, r1, b1⟩
  have k1 : Below w.heap.size w w1 := below_on (Below.refl _ _) b1
  go_wp2_with (fail)
  refine (CS pr1 cr1 _ r1.bytes).mono ?_
  rintro e w2 ⟨rfl, b2⟩
  have k2 : Below w.heap.size w w2 := below_on k1 b2
  clear r1
  go_wp2_with (fail)
  refine (toByteS_own p n q xs _ hn hx (in_below h k2)).mono ?_
  rintro e w3 ⟨pr2, cr2, rfl, r2, b3⟩
  have k3 : Below w.heap.size w w3 := below_on k2 b3
  go_wp2_with (fail)
  refine (CI pr2 cr2 _ r2.bytes k3).mono ?_
  rintro e w4 ⟨rfl, b4⟩
  have k4 : Below w.heap.size w w4 := below_on k3 b4
  replace r2 := r2.on b4
  go_wp2_with (fail)
  refine (toByteS_own p n q xs _ hn hx (in_below h k4)).mono ?_
  rintro e w5 ⟨pr3, cr3, rfl, r3, b5⟩
  have k5 : Below w.heap.size w w5 := below_on k4 b5
  replace r2 := r2.on b5
  go_wp2_with (fail)
  refine (eqByteS_any pr2 pr3 n n cr2 cr3 xs xs _ (by omega) r2.len r3.len r2.bytes r3.bytes).mono ?_
  rintro e w6 ⟨rfl, b6⟩
  have k6 : Below w.heap.size w w6 := below_on k5 b6
  go_wp2_with (fail)
  go_ret
  exact ⟨rfl, k6⟩

theorem routeOf_law (p0 : Option Addr) (n0 q0 : Nat) (ep : Int) (xs0 : List Int) (w : World) (hx0 : xs0.length = n0) (h0 : BytesIn w p0 n0 xs0) (hb0 : ∀ x ∈ xs0, 0 ≤ x ∧ x < 256) (hK : KeysIs w) :
    Calls Tryd.prog 4 #[.slice p0 n0 q0, .int .i64 ep] w fun e w' => e = .returned (.bool true) ∧ Below w.heap.size w w' := by
  by_cases hn0 : n0 ≤ 1048576
  · exact routeOf_small p0 n0 q0 ep xs0 w hn0 hx0 h0 hb0 hK
  · have d0 : (1048576 : Int) < (n0 : Int) := by omega
    clear hx0 h0 hb0 hK
    go_enter Tryd.func4, Tryd.ntmps4
    go_wp2
    go_ret
    exact ⟨rfl, Below.refl _ _⟩

end Go.Proofs.YtdjdanpicbaieaaDoor
