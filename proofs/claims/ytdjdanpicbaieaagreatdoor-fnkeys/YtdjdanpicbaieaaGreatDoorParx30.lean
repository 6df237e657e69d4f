/-
  What both sides' RouteOf answers at any bytes and any epoch, and FnExactRouteOf. Conditions: bytes all; for the program the table of the rounds' numbers is as its text says.
-/
import Derived.Test.YtdjdanpicbaieaaGreatDoorParx12
import Derived.Test.YtdjdanpicbaieaaGreatDoorParx29
import Derived.Test.YtdjdanpicbaieaaGreatDoorParx15
import Derived.Test.YtdjdanpicbaieaaGreatDoorParx02
namespace Go.Proofs.YtdjdanpicbaieaaGreatDoor
open Go.RowKit
set_option maxRecDepth 100000

/-- A route's signs. -/
def rouL (xs : List Int) (e : Int) : List Int := if hasB xs.length e then hexL ((macL xs (tellL routeL e)).take 8) else []
theorem rouL_yes {xs : List Int} {e : Int} (h : hasB xs.length e = true) : rouL xs e = hexL ((macL xs (tellL routeL e)).take 8) := if_pos h
theorem rouL_no {xs : List Int} {e : Int} (h : hasB xs.length e = false) : rouL xs e = [] := by rw [rouL, h]; rfl
def routeS : ByteArray := ⟨#[114, 111, 117, 116, 101]⟩
theorem routeS_nums : numsOf routeS = routeL := by decide
theorem mac_seven : macN 32 7 = 32 := rfl
theorem macR_byte (xs ys : List Int) : ∀ x ∈ macL xs ys, 0 ≤ x ∧ x < 256 := macL_byte xs ys
theorem slice_8 (p : Option Addr) (c : Nat) (hc : 32 ≤ c) : (∀ W, (Instr.slice 22 (.slice p 32 c) none (some (.int .i64 8)) none).run Tryz.prog W = .ok (.slice p 8 c) W) := fun W => by
  have ht' : Tryz.prog.underlying 22 = some (.slice (Tryz.prog.elem 22)) := by simp [Program.elem, Tryz.underlying22]
  have he : Tryz.prog.elem 22 = 5 := by simp [Program.elem, Tryz.underlying22]
  obtain ⟨i0, hi, hz0, hz1, hz2⟩ := info_parts infoByte
  have := run_slice_h W 22 p 32 c ht' .i64 8 (by omega) (by omega)
  refine this.trans ?_
  rw [he]
  cases p <;> simp [sizeOf, typeInfo, hi, sliced, Addr.add]
theorem in_8 {w : World} {p : Option Addr} {xs : List Int} (h : BytesIn w p 32 xs) : BytesIn w p 8 (xs.take 8) := fun _ => by
  obtain ⟨b, o, rfl, hc⟩ := h (by omega)
  refine ⟨b, o, rfl, fun i hi => ?_⟩
  rw [hc i (by omega)]
  simp [List.getD_eq_getElem?_getD, hi]

set_option maxHeartbeats 2000000 in
theorem implRoute_any (p : Option Addr) (n c : Nat) (xs : List Int) (e : Int) (w : World) (hx : xs.length = n) (h : BytesIn w p n xs) (hb : ∀ x ∈ xs, 0 ≤ x ∧ x < 256) (hK : KeysIs w) :
    Calls Tryz.prog 11 #[.slice p n c, .int .i64 e] w fun r w' => r = .returned (.string (strOfNums (rouL xs e))) ∧ Below w.heap.size w w' := by
  have hnot : ∀ (x : Bool) (w : World), (Op.unary .not (.bool x)).run Tryz.prog w = .ok (.bool (!x)) w := fun _ _ => rfl
  have CH := fun X => hasKeys_any p n c e X
  by_cases hh : n = 32 ∧ 0 ≤ e ∧ e ≤ 40
  · rw [rouL_yes (by rw [hx]; exact hasB_yes hh)]
    rw [hasB_yes hh] at CH
    obtain ⟨rfl, he⟩ := hh
    have hel := tellL_length (info := routeL) rfl he
    have CE := fun X => ofEpoch_any routeS e X rfl he
    rw [routeS_nums] at CE
    have heb := tellL_byte routeL_byte e
    generalize tellL routeL e = TL at CE hel heb ⊢
    have CM := fun (pc : Option Addr) (cc : Nat) (X : World) (hX : Below w.heap.size w X) (hc : BytesIn X pc 7 TL) => implMac_any p pc 32 7 c cc xs TL X hx hel (in_below h hX) hc hb heb (keys_below hK hX)
    rw [mac_seven] at CM
    have hml : (macL xs TL).length = 32 := by rw [macL_length, hx, hel]; rfl
    have hmb := macR_byte xs TL
    generalize macL xs TL = ML at CM hml hmb ⊢
    have htl : (ML.take 8).length = 8 := by rw [List.length_take, hml]; rfl
    have htb : ∀ x ∈ ML.take 8, 0 ≤ x ∧ x < 256 := fun x hx => hmb x (List.mem_of_mem_take hx)
    go_enter Tryz.func11, Tryz.ntmps11
    go_wp2_with (first
      | (go_at_call 27; refine (CH _).mono ?_; rintro r w1 ⟨rfl, rfl⟩)
      | (go_at_call 31; refine (CE _).mono ?_; rintro r w2 ⟨p2, c2, rfl, r2, b2⟩)
      | (go_at_call 30; refine (CM p2 c2 _ b2 r2.bytes).mono ?_; rintro r w3 ⟨p3, c3, rfl, r3, b3⟩; have k3 := below_on b2 b3; have sl := slice_8 p3 c3 r3.cap; have i8 := in_8 r3.bytes)
      | (go_at_call 29; refine (implHex_any p3 8 c3 (ML.take 8) _ (by decide) htl i8 htb).mono ?_; rintro r w4 ⟨rfl, b4⟩))
    go_ret
    exact ⟨rfl, below_on k3 b4⟩
  · rw [rouL_no (by rw [hx]; exact hasB_no hh)]
    rw [hasB_no hh] at CH
    go_enter Tryz.func11, Tryz.ntmps11
    go_wp2_with (go_at_call 27; refine (CH _).mono ?_; rintro r w1 ⟨rfl, rfl⟩)
    go_ret
    exact ⟨rfl, Below.refl _ _⟩

set_option maxHeartbeats 4000000 in
theorem specRoute_any (p : Option Addr) (n c : Nat) (xs : List Int) (e : Int) (w : World) (hx : xs.length = n) (h : BytesIn w p n xs) (hb : ∀ x ∈ xs, 0 ≤ x ∧ x < 256) :
    Calls Tryz.prog 16 #[.slice p n c, .int .i64 e] w fun r w' => r = .returned (.string (strOfNums (rouL xs e))) ∧ Below w.heap.size w w' := by
  have hnot : ∀ (x : Bool) (w : World), (Op.unary .not (.bool x)).run Tryz.prog w = .ok (.bool (!x)) w := fun _ _ => rfl
  have CI := fun X => l1In_any e 0 40 X
  by_cases hn : n = 32
  · subst hn
    by_cases he : 0 ≤ e ∧ e ≤ 40
    · rw [rouL_yes (by rw [hx]; exact hasB_yes ⟨rfl, he⟩)]
      rw [decide_eq_true he] at CI
      obtain ⟨i0, hi, hz0, hz1, hz2⟩ := info_parts infoByte
      have hel := tellL_length (info := routeL) rfl he
      have heb := tellL_byte routeL_byte e
      have CG := fun X => specGreat_any e 2 X (by omega)
      rw [fitE_two he] at CG
      have hgl : (fitL e 2).reverse.length = 2 := by rw [List.length_reverse, fitE_len he]
      unfold tellL at hel heb ⊢
      generalize (fitL e 2).reverse = GL at CG hgl hel heb ⊢
      have CM := fun (pc : Option Addr) (cc : Nat) (X : World) (hX : Below w.heap.size w X) (hc : BytesIn X pc 7 (routeL ++ GL)) => specMac_any p pc 32 7 c cc xs (routeL ++ GL) X hx hel (in_below h hX) hc hb heb
      rw [mac_seven] at CM
      have hml : (macL xs (routeL ++ GL)).length = 32 := by rw [macL_length, hx, hel]; rfl
      have hmb := macR_byte xs (routeL ++ GL)
      generalize macL xs (routeL ++ GL) = ML at CM hml hmb ⊢
      have htl : (ML.take 8).length = 8 := by rw [List.length_take, hml]; rfl
      have htb : ∀ x ∈ ML.take 8, 0 ≤ x ∧ x < 256 := fun x hx => hmb x (List.mem_of_mem_take hx)
      have kc := fun (W : World) (C : Array Value) (n c : Nat) => Lib.run_convert_bytes_const (P := Tryz.prog) W 22 5 C n c Tryz.underlying22 Tryz.underlying5
      have hlit := lit_in w 5 (5, 6) 114 111 117 116 101
      have bl : Below w.heap.size w (w.alloc (.cells #[.int .u8 114, .int .u8 111, .int .u8 117, .int .u8 116, .int .u8 101] 5 (5, 6))) := made_below _ _ (Below.refl _ _)
      obtain ⟨W1, hW1⟩ : ∃ W1, W1 = w.alloc (.cells #[.int .u8 114, .int .u8 111, .int .u8 117, .int .u8 116, .int .u8 101] 5 (5, 6)) := ⟨_, rfl⟩
      rw [← hW1] at hlit bl
      replace hW1 : Hid (w.alloc (.cells #[.int .u8 114, .int .u8 111, .int .u8 117, .int .u8 116, .int .u8 101] 5 (5, 6)) = W1) := hW1.symm
      clear h hb
      go_enter Tryz.func16, Tryz.ntmps16
      go_wp2_with (first
        | (go_at_call 33; refine (CI _).mono ?_; rintro r w0 ⟨rfl, rfl⟩)
        | rw [hW1.out]
        | (go_at_call 35; refine (CG _).mono ?_; rintro r w2 ⟨p2, c2, rfl, r2, b2⟩; have hlit2 := in_below hlit b2; have r2b := r2.bytes; have k2 := below_on bl b2)
        | (at_builtin; refine list_grows hi hz0 hz1 hz2 (.tmp 15) (.tmp 17) 22 Tryz.underlying22 hlit2 rfl (by decide) r2b hgl (by decide) (by decide) (by rfl) (by rfl) (by rfl) (by rfl) ?_; intro p3 c3 w3 r3 b3; have k3 := below_on k2 b3)
        | (go_at_call 38; refine (CM p3 c3 _ k3 r3.bytes).mono ?_; rintro r w4 ⟨p4, c4, rfl, r4, b4⟩; have k4 := below_on k3 b4; have sl := slice_8 p4 c4 r4.cap; have i8 := in_8 r4.bytes)
        | (go_at_call 37; refine (specHex_any p4 8 c4 (ML.take 8) _ (by decide) htl i8 htb).mono ?_; rintro r w5 ⟨rfl, b5⟩))
      go_ret
      exact ⟨rfl, below_on k4 b5⟩
    · rw [rouL_no (by rw [hx]; exact hasB_no (fun x => he x.2))]
      rw [decide_eq_false he] at CI
      go_enter Tryz.func16, Tryz.ntmps16
      go_wp2_with (go_at_call 33; refine (CI _).mono ?_; rintro r w0 ⟨rfl, rfl⟩)
      go_ret
      exact ⟨rfl, Below.refl _ _⟩
  · have hd : ((n : Int) != 32) = true := by simp; omega
    rw [rouL_no (by rw [hx]; exact hasB_no (fun x => hn x.1))]
    go_enter Tryz.func16, Tryz.ntmps16
    go_wp2
    go_ret
    exact ⟨rfl, Below.refl _ _⟩

end Go.Proofs.YtdjdanpicbaieaaGreatDoor
