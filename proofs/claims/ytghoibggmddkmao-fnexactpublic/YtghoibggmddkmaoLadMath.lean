/-
  The ladder of a point by whole numbers, and by numbers of 16 parts: plain laws.
-/
import Derived.Test.YtghoibggmddkmaoFieldFacts
namespace Go.Proofs.Ytghoibggmddkmao

/-- Parts of 16 bits or nearly so. -/
def smZ (f : Nat → Int) : Prop := ∀ i, -65600 ≤ f i ∧ f i ≤ 65600
theorem mulZ_sm {a b : Nat → Int} (ha : okZ a) (hb : okZ b) : smZ (mulZ a b) := fun i => by
  have h := cry_twice (f := fldZ (rwsZ a b 16)) (fun i => (fldZ_le ha hb i).1) (fun i => (fldZ_le ha hb i).2)
  by_cases hi : i = 0
  · subst hi
    have h1 : mulZ a b 0 = cryZ (cryZ (fldZ (rwsZ a b 16))) 0 := rfl
    omega
  · have h1 := h.1 i hi
    have h2 : mulZ a b i = cryZ (cryZ (fldZ (rwsZ a b 16))) i := rfl
    omega
theorem smZ.ok {f : Nat → Int} (h : smZ f) : okZ f := fun i => by have := h i; omega
def addZ (f g : Nat → Int) (i : Nat) : Int := f i + g i
def subZ (f g : Nat → Int) (i : Nat) : Int := f i - g i
theorem add_ok {f g : Nat → Int} (h : smZ f) (k : smZ g) : okZ (addZ f g) := fun i => by have := h i; have := k i; unfold addZ; omega
theorem sub_ok {f g : Nat → Int} (h : smZ f) (k : smZ g) : okZ (subZ f g) := fun i => by have := h i; have := k i; unfold subZ; omega
theorem val_addZ (f g : Nat → Int) : valZ (addZ f g) 16 = valZ f 16 + valZ g 16 := valZ_add f g 16
theorem val_subZ (f g : Nat → Int) : valZ (subZ f g) 16 = valZ f 16 - valZ g 16 := valZ_sub f g 16

/-- x2, x3, z2, z3. -/
structure Lad where
  a : Int
  b : Int
  c : Int
  d : Int
def ladEE (s : Lad) : Int := (s.a + s.c) * (s.a + s.c)
def ladFF (s : Lad) : Int := (s.a - s.c) * (s.a - s.c)
def ladHE (s : Lad) : Int := (s.b - s.d) * (s.a + s.c)
def ladGF (s : Lad) : Int := (s.b + s.d) * (s.a - s.c)
def ladStep (x : Int) (s : Lad) : Lad := ⟨ladEE s * ladFF s, (ladHE s + ladGF s) * (ladHE s + ladGF s), (ladEE s - ladFF s) * (ladEE s + (ladEE s - ladFF s) * 121665), x * ((ladHE s - ladGF s) * (ladHE s - ladGF s))⟩
def ladSw (s : Lad) : Lad := ⟨s.b, s.a, s.d, s.c⟩
def ladIf (t : Bool) (s : Lad) : Lad := if t then ladSw s else s
def likeL (s t : Lad) : Prop := likeP s.a t.a ∧ likeP s.b t.b ∧ likeP s.c t.c ∧ likeP s.d t.d
theorem likeL.refl (s : Lad) : likeL s s := ⟨likeP.refl _, likeP.refl _, likeP.refl _, likeP.refl _⟩
theorem likeL.trans {s t u : Lad} (h : likeL s t) (k : likeL t u) : likeL s u := ⟨h.1.trans k.1, h.2.1.trans k.2.1, h.2.2.1.trans k.2.2.1, h.2.2.2.trans k.2.2.2⟩
theorem likeL.symm {s t : Lad} (h : likeL s t) : likeL t s := ⟨h.1.symm, h.2.1.symm, h.2.2.1.symm, h.2.2.2.symm⟩
theorem likeL.ladIf {s t : Lad} (h : likeL s t) (b : Bool) : likeL (ladIf b s) (ladIf b t) := by
  unfold Go.Proofs.Ytghoibggmddkmao.ladIf
  cases b
  · exact h
  · exact ⟨h.2.1, h.1, h.2.2.2, h.2.2.1⟩
theorem like_EE {s t : Lad} (h : likeL s t) : likeP (ladEE s) (ladEE t) := (h.1.add h.2.2.1).mul (h.1.add h.2.2.1)
theorem like_FF {s t : Lad} (h : likeL s t) : likeP (ladFF s) (ladFF t) := (h.1.sub h.2.2.1).mul (h.1.sub h.2.2.1)
theorem like_HE {s t : Lad} (h : likeL s t) : likeP (ladHE s) (ladHE t) := (h.2.1.sub h.2.2.2).mul (h.1.add h.2.2.1)
theorem like_GF {s t : Lad} (h : likeL s t) : likeP (ladGF s) (ladGF t) := (h.2.1.add h.2.2.2).mul (h.1.sub h.2.2.1)
theorem like_step {x y : Int} {s t : Lad} (hx : likeP x y) (h : likeL s t) : likeL (ladStep x s) (ladStep y t) :=
  ⟨(like_EE h).mul (like_FF h), ((like_HE h).add (like_GF h)).mul ((like_HE h).add (like_GF h)), ((like_EE h).sub (like_FF h)).mul ((like_EE h).add (((like_EE h).sub (like_FF h)).mulR _)), hx.mul (((like_HE h).sub (like_GF h)).mul ((like_HE h).sub (like_GF h)))⟩
/-- The ladder behind n of its 255 bits, from the highest down. -/
def ladN (bit : Nat → Bool) (x : Int) : Nat → Lad
  | 0 => ⟨1, x, 0, 1⟩
  | n + 1 => ladStep x (ladIf (bit (254 - n) != (if n = 0 then false else bit (255 - n))) (ladN bit x n))
/-- The bit that was met last. -/
def lastB (bit : Nat → Bool) (n : Nat) : Bool := if n = 0 then false else bit (255 - n)
def ladE (bit : Nat → Bool) (x : Int) : Lad := ladIf (bit 0) (ladN bit x 255)
/-- The point's number. -/
def ladZ (bit : Nat → Bool) (x : Int) : Int := (ladE bit x).a * (ladE bit x).c ^ (fldP - 2).toNat % fldP
theorem ladN_like {x y : Int} (hx : likeP x y) (bit : Nat → Bool) : ∀ n, likeL (ladN bit x n) (ladN bit y n)
  | 0 => ⟨likeP.refl _, hx, likeP.refl _, likeP.refl _⟩
  | n + 1 => like_step hx ((ladN_like hx bit n).ladIf _)
theorem ladZ_of {s : Lad} {bit : Nat → Bool} {x : Int} (h : likeL s (ladE bit x)) : s.a * s.c ^ (fldP - 2).toNat % fldP = ladZ bit x := (h.1.mul (like_pow h.2.2.1 _)).mod
theorem ladZ_like {x y : Int} (hx : likeP x y) (bit : Nat → Bool) : ladZ bit x = ladZ bit y := ladZ_of ((ladN_like hx bit 255).ladIf _)
theorem ladN_congr {bit bit' : Nat → Bool} (x : Int) (h : ∀ i, i < 255 → bit i = bit' i) : ∀ n, n ≤ 255 → ladN bit x n = ladN bit' x n
  | 0, _ => rfl
  | n + 1, hn => by
    have ih := ladN_congr x h n (by omega)
    rw [ladN, ladN, ih, h (254 - n) (by omega)]
    by_cases h0 : n = 0
    · rw [if_pos h0, if_pos h0]
    · rw [if_neg h0, if_neg h0, h (255 - n) (by omega)]
theorem ladZ_congr {bit bit' : Nat → Bool} (x : Int) (h : ∀ i, i < 255 → bit i = bit' i) : ladZ bit x = ladZ bit' x := by
  unfold ladZ ladE
  rw [ladN_congr x h 255 (by omega), h 0 (by omega)]

/-! ### the ladder by numbers of 16 parts -/
structure Az where
  a : Nat → Int
  b : Nat → Int
  c : Nat → Int
  d : Nat → Int
def azVal (s : Az) : Lad := ⟨valZ s.a 16, valZ s.b 16, valZ s.c 16, valZ s.d 16⟩
def azOk (s : Az) : Prop := smZ s.a ∧ smZ s.b ∧ smZ s.c ∧ smZ s.d
def azSw (s : Az) : Az := ⟨s.b, s.a, s.d, s.c⟩
def azIf (t : Bool) (s : Az) : Az := if t then azSw s else s
theorem azIf_val (t : Bool) (s : Az) : azVal (azIf t s) = ladIf t (azVal s) := by cases t <;> rfl
theorem azIf_ok {t : Bool} {s : Az} (h : azOk s) : azOk (azIf t s) := by
  cases t
  · exact h
  · exact ⟨h.2.1, h.1, h.2.2.2, h.2.2.1⟩
def oneAt (v : Int) (i : Nat) : Int := if i = 0 then v else 0
/-- 121665 in 16 parts. -/
def mZ (i : Nat) : Int := if i = 0 then 56129 else if i = 1 then 1 else 0
theorem mZ_val : valZ mZ 16 = 121665 := by decide
theorem mZ_sm : smZ mZ := fun i => by
  unfold mZ
  split
  · omega
  · split <;> omega
theorem oneAt_val (v : Int) : valZ (oneAt v) 16 = v := by
  have h := valZ_split (oneAt v) 1 15
  have e : valZ (fun i => oneAt v (1 + i)) 15 = 0 := by
    have e0 : valZ (fun i => oneAt v (1 + i)) 15 = valZ (fun _ => 0) 15 := valZ_congr fun i _ => by rw [oneAt, if_neg (by omega)]
    rw [e0, valZ_zero]
  rw [e] at h
  have h2 : valZ (oneAt v) 1 = v := by simp [valZ, oneAt]
  show valZ (oneAt v) (1 + 15) = v
  rw [h, h2]
  omega
theorem oneAt_sm {v : Int} (h0 : 0 ≤ v) (h1 : v ≤ 65535) : smZ (oneAt v) := fun i => by unfold oneAt; split <;> omega
def azEE (s : Az) : Nat → Int := mulZ (addZ s.a s.c) (addZ s.a s.c)
def azFF (s : Az) : Nat → Int := mulZ (subZ s.a s.c) (subZ s.a s.c)
def azHE (s : Az) : Nat → Int := mulZ (subZ s.b s.d) (addZ s.a s.c)
def azGF (s : Az) : Nat → Int := mulZ (addZ s.b s.d) (subZ s.a s.c)
def azW (s : Az) : Nat → Int := subZ (azEE s) (azFF s)
def azStep (x : Nat → Int) (s : Az) : Az := ⟨mulZ (azEE s) (azFF s), mulZ (addZ (azHE s) (azGF s)) (addZ (azHE s) (azGF s)), mulZ (azW s) (addZ (azEE s) (mulZ (azW s) mZ)), mulZ x (mulZ (subZ (azHE s) (azGF s)) (subZ (azHE s) (azGF s)))⟩
theorem azEE_sm {s : Az} (h : azOk s) : smZ (azEE s) := mulZ_sm (add_ok h.1 h.2.2.1) (add_ok h.1 h.2.2.1)
theorem azFF_sm {s : Az} (h : azOk s) : smZ (azFF s) := mulZ_sm (sub_ok h.1 h.2.2.1) (sub_ok h.1 h.2.2.1)
theorem azHE_sm {s : Az} (h : azOk s) : smZ (azHE s) := mulZ_sm (sub_ok h.2.1 h.2.2.2) (add_ok h.1 h.2.2.1)
theorem azGF_sm {s : Az} (h : azOk s) : smZ (azGF s) := mulZ_sm (add_ok h.2.1 h.2.2.2) (sub_ok h.1 h.2.2.1)
theorem azW_ok {s : Az} (h : azOk s) : okZ (azW s) := sub_ok (azEE_sm h) (azFF_sm h)
theorem azWM_sm {s : Az} (h : azOk s) : smZ (mulZ (azW s) mZ) := mulZ_sm (azW_ok h) mZ_sm.ok
theorem azStep_ok {x : Nat → Int} {s : Az} (hx : smZ x) (h : azOk s) : azOk (azStep x s) :=
  ⟨mulZ_sm (azEE_sm h).ok (azFF_sm h).ok, mulZ_sm (add_ok (azHE_sm h) (azGF_sm h)) (add_ok (azHE_sm h) (azGF_sm h)), mulZ_sm (azW_ok h) (add_ok (azEE_sm h) (azWM_sm h)), mulZ_sm hx.ok (mulZ_sm (sub_ok (azHE_sm h) (azGF_sm h)) (sub_ok (azHE_sm h) (azGF_sm h))).ok⟩
theorem like_mul2 {f g : Nat → Int} {u v : Int} (hf : likeP (valZ f 16) u) (hg : likeP (valZ g 16) v) : likeP (valZ (mulZ f g) 16) (u * v) := (like_mul f g).trans (hf.mul hg)
theorem like_add2 {f g : Nat → Int} {u v : Int} (hf : likeP (valZ f 16) u) (hg : likeP (valZ g 16) v) : likeP (valZ (addZ f g) 16) (u + v) := by rw [val_addZ]; exact hf.add hg
theorem like_sub2 {f g : Nat → Int} {u v : Int} (hf : likeP (valZ f 16) u) (hg : likeP (valZ g 16) v) : likeP (valZ (subZ f g) 16) (u - v) := by rw [val_subZ]; exact hf.sub hg
theorem azStep_like {x : Nat → Int} {y : Int} {s : Az} {t : Lad} (hx : likeP (valZ x 16) y) (h : likeL (azVal s) t) : likeL (azVal (azStep x s)) (ladStep y t) := by
  have hac := like_add2 h.1 h.2.2.1
  have sac := like_sub2 h.1 h.2.2.1
  have hbd := like_add2 h.2.1 h.2.2.2
  have sbd := like_sub2 h.2.1 h.2.2.2
  have ee := like_mul2 hac hac
  have ff := like_mul2 sac sac
  have he := like_mul2 sbd hac
  have gf := like_mul2 hbd sac
  have ww := like_sub2 ee ff
  have mm : likeP (valZ mZ 16) 121665 := by rw [mZ_val]; exact likeP.refl _
  exact ⟨like_mul2 ee ff, like_mul2 (like_add2 he gf) (like_add2 he gf), like_mul2 ww (like_add2 ee (like_mul2 ww mm)), like_mul2 hx (like_mul2 (like_sub2 he gf) (like_sub2 he gf))⟩
def azN (bit : Nat → Bool) (x : Nat → Int) : Nat → Az
  | 0 => ⟨oneAt 1, x, fun _ => 0, oneAt 1⟩
  | n + 1 => azStep x (azIf (bit (254 - n) != lastB bit n) (azN bit x n))
theorem azN_ok {x : Nat → Int} (hx : smZ x) (bit : Nat → Bool) : ∀ n, azOk (azN bit x n)
  | 0 => ⟨oneAt_sm (by decide) (by decide), hx, fun _ => ⟨by show (-65600 : Int) ≤ 0; omega, by show (0 : Int) ≤ 65600; omega⟩, oneAt_sm (by decide) (by decide)⟩
  | n + 1 => azStep_ok hx (azIf_ok (azN_ok hx bit n))
theorem azN_like (x : Nat → Int) (bit : Nat → Bool) : ∀ n, likeL (azVal (azN bit x n)) (ladN bit (valZ x 16) n)
  | 0 => by
    refine ⟨?_, likeP.refl _, ?_, ?_⟩
    · show likeP (valZ (oneAt 1) 16) 1
      rw [oneAt_val]; exact likeP.refl _
    · show likeP (valZ (fun _ => 0) 16) 0
      rw [valZ_zero]; exact likeP.refl _
    · show likeP (valZ (oneAt 1) 16) 1
      rw [oneAt_val]; exact likeP.refl _
  | n + 1 => by
    refine azStep_like (likeP.refl _) ?_
    rw [azIf_val]
    exact (azN_like x bit n).ladIf _
/-- What the specification's ladder comes to. -/
theorem az_point {x : Nat → Int} (bit : Nat → Bool) : (valZ (mulZ (azIf (bit 0) (azN bit x 255)).a (invZ (azIf (bit 0) (azN bit x 255)).c 254)) 16) % fldP = ladZ bit (valZ x 16) := by
  have h : likeL (azVal (azIf (bit 0) (azN bit x 255))) (ladE bit (valZ x 16)) := by
    rw [azIf_val]
    exact (azN_like x bit 255).ladIf _
  have hi := like_inv (azIf (bit 0) (azN bit x 255)).c 254
  rw [← invE_val] at hi
  have hm := (like_mul (azIf (bit 0) (azN bit x 255)).a (invZ (azIf (bit 0) (azN bit x 255)).c 254)).trans (hi.mulL _)
  rw [hm.mod]
  exact ladZ_of h

/-! ### clamped -/
def clampL (ks : List Int) : List Int := (ks.set 0 (ks.getD 0 0 / 8 * 8)).set 31 (ks.getD 31 0 % 64 + 64)
theorem clampL_length (ks : List Int) : (clampL ks).length = ks.length := by simp [clampL]
theorem clampL_byte {ks : List Int} (hb : ∀ x ∈ ks, 0 ≤ x ∧ x < 256) : ∀ x ∈ clampL ks, 0 ≤ x ∧ x < 256 := by
  intro x hx
  have h0 := byteZ hb 0
  have h1 := byteZ hb 31
  rcases List.mem_or_eq_of_mem_set hx with h | h
  · rcases List.mem_or_eq_of_mem_set h with h | h
    · exact hb x h
    · omega
  · omega
/-- Bit i of bytes. -/
def bitB (ks : List Int) (i : Nat) : Bool := decide ((ks.getD (i / 8) 0).toNat / 2 ^ (i % 8) % 2 = 1)

end Go.Proofs.Ytghoibggmddkmao
