/-
  2 to the 255th less 19 is a prime, and so a number's power by it less 1 is 1: by a number whose powers are all of them (Pratt's way). Plain laws of natural numbers.
-/
import Derived.Test.YtghoibggmddkmaoFieldMul
namespace Go.Proofs.Ytghoibggmddkmao

def IsPrime (n : Nat) : Prop := 2 ≤ n ∧ ∀ d, d ∣ n → d = 1 ∨ d = n
theorem prime_factor : ∀ n : Nat, 2 ≤ n → ∃ q, IsPrime q ∧ q ∣ n := by
  intro n
  induction n using Nat.strongRecOn with
  | _ n ih =>
    intro hn
    by_cases h : ∀ d, d ∣ n → d = 1 ∨ d = n
    · exact ⟨n, ⟨hn, h⟩, Nat.dvd_refl n⟩
    · obtain ⟨d, hd⟩ := Classical.not_forall.1 h
      obtain ⟨h1, h2⟩ := Classical.not_imp.1 hd
      have hd1 : d ≠ 1 := fun e => h2 (.inl e)
      have hdn : d ≠ n := fun e => h2 (.inr e)
      have hle := Nat.le_of_dvd (by omega) h1
      have h0 : d ≠ 0 := fun e => by subst e; have := Nat.zero_dvd.1 h1; omega
      obtain ⟨q, hq, hqd⟩ := ih d (by omega) (by omega)
      exact ⟨q, hq, Nat.dvd_trans hqd h1⟩
theorem prime_mul {q a b : Nat} (hq : IsPrime q) (h : q ∣ a * b) : q ∣ a ∨ q ∣ b := by
  rcases hq.2 (Nat.gcd q a) (Nat.gcd_dvd_left q a) with h1 | h1
  · exact .inr (Nat.Coprime.dvd_of_dvd_mul_left h1 h)
  · exact .inl (h1 ▸ Nat.gcd_dvd_right q a)
def prodL : List Nat → Nat
  | [] => 1
  | a :: l => a * prodL l
theorem prime_in {q : Nat} (hq : IsPrime q) : ∀ {l : List Nat}, (∀ f ∈ l, IsPrime f) → q ∣ prodL l → q ∈ l
  | [], _, h => by
    have := Nat.le_of_dvd (by decide) h
    have := hq.1
    simp only [prodL] at *
    omega
  | a :: l, hl, h => by
    rcases prime_mul hq h with h1 | h1
    · rcases (hl a (List.mem_cons_self ..)).2 q h1 with e | e
      · have := hq.1; omega
      · rw [e]; exact List.mem_cons_self ..
    · exact List.mem_cons_of_mem _ (prime_in hq (fun f hf => hl f (List.mem_cons_of_mem _ hf)) h1)
theorem nodup_le : ∀ (n : Nat) (l : List Nat), l.Nodup → (∀ x ∈ l, x < n) → l.length ≤ n
  | 0, l, _, h => by
    cases l with
    | nil => simp
    | cons a l => exact absurd (h a (List.mem_cons_self ..)) (by omega)
  | n + 1, l, hn, h => by
    by_cases hm : n ∈ l
    · have h1 := nodup_le n (l.erase n) (hn.erase n) (fun x hx => by
        have hx' := h x (List.mem_of_mem_erase hx)
        have hne : x ≠ n := fun e => by subst e; exact hn.not_mem_erase hx
        omega)
      rw [List.length_erase_of_mem hm] at h1
      omega
    · have h1 := nodup_le n l hn (fun x hx => by
        have hx' := h x hx
        have hne : x ≠ n := fun e => hm (e ▸ hx)
        omega)
      omega
section
variable {N g : Nat}
theorem pow_mod_mul (a b : Nat) : g ^ (a + b) % N = (g ^ a % N) * (g ^ b % N) % N := by rw [Nat.pow_add, Nat.mul_mod]
theorem pow_one_mul {m : Nat} (h1 : 1 < N) (h : g ^ m % N = 1) : ∀ c, g ^ (m * c) % N = 1
  | 0 => by simpa using Nat.mod_eq_of_lt h1
  | c + 1 => by rw [Nat.mul_succ, pow_mod_mul, pow_one_mul h1 h c, h, Nat.one_mul, Nat.mod_eq_of_lt h1]
/-- All that is not nought is a power of g. -/
theorem pratt_all {l : List Nat} (hN : 2 ≤ N) (hg : g ^ (N - 1) % N = 1) (hl : prodL l = N - 1) (hp : ∀ f ∈ l, IsPrime f) (hf : ∀ f ∈ l, g ^ ((N - 1) / f) % N ≠ 1) : ∀ z, 0 < z → z < N → ∃ k, g ^ k % N = z := by
  have h1 : 1 < N := by omega
  -- no smaller power is 1
  have least : ∀ d, 0 < d → d < N - 1 → g ^ d % N ≠ 1 := by
    intro d
    induction d using Nat.strongRecOn with
    | _ d ih =>
      intro hd0 hd1 hd
      by_cases hm : d ∣ N - 1
      · obtain ⟨c, hc⟩ := hm
        have hc2 : 2 ≤ c := by
          rcases Nat.lt_or_ge c 2 with h | h
          · have : c = 0 ∨ c = 1 := by omega
            rcases this with rfl | rfl
            · omega
            · omega
          · exact h
        obtain ⟨q, hq, hqc⟩ := prime_factor c hc2
        have hqm : q ∈ l := prime_in hq hp (by rw [hl, hc]; exact Nat.dvd_mul_left_of_dvd hqc d)
        obtain ⟨c', hc'⟩ := hqc
        refine hf q hqm ?_
        have hq0 : 0 < q := by have := hq.1; omega
        have e : (N - 1) / q = d * c' := by
          rw [hc, hc', ← Nat.mul_assoc, Nat.mul_comm d q, Nat.mul_assoc]
          exact Nat.mul_div_cancel_left _ hq0
        rw [e]
        exact pow_one_mul h1 hd c'
      · have hr : 0 < (N - 1) % d := Nat.pos_of_ne_zero fun e => hm (Nat.dvd_of_mod_eq_zero e)
        have hr2 : (N - 1) % d < d := Nat.mod_lt _ hd0
        refine ih _ hr2 hr (by omega) ?_
        have e : N - 1 = d * ((N - 1) / d) + (N - 1) % d := (Nat.div_add_mod (N - 1) d).symm
        rw [e, pow_mod_mul, pow_one_mul h1 hd, Nat.one_mul, Nat.mod_mod] at hg
        exact hg
  -- the powers are unlike
  have unlike : ∀ i j, i < j → j < N - 1 → g ^ i % N ≠ g ^ j % N := by
    intro i j hij hj he
    refine least (j - i) (by omega) (by omega) ?_
    have e1 : g ^ (j - i) % N = g ^ (N - 1 - i + j) % N := by
      rw [show N - 1 - i + j = (N - 1) + (j - i) by omega, pow_mod_mul, hg, Nat.one_mul, Nat.mod_mod]
    have e2 : g ^ (N - 1 - i + j) % N = g ^ (N - 1 - i + i) % N := by rw [pow_mod_mul, pow_mod_mul (a := N - 1 - i) (b := i), he]
    rw [e1, e2, show N - 1 - i + i = N - 1 by omega, hg]
  -- none is nought
  have pos : ∀ k, k < N - 1 → 0 < g ^ k % N := by
    intro k hk
    refine Nat.pos_of_ne_zero fun e => ?_
    have : g ^ (k + (N - 1 - k)) % N = 0 := by rw [pow_mod_mul, e, Nat.zero_mul, Nat.zero_mod]
    rw [show k + (N - 1 - k) = N - 1 by omega, hg] at this
    cases this
  intro z hz0 hzN
  refine Classical.byContradiction fun hno => ?_
  have hz : ∀ k, g ^ k % N ≠ z := fun k hk => hno ⟨k, hk⟩
  have hpw : (List.range (N - 1)).Pairwise (fun i j => g ^ i % N - 1 ≠ g ^ j % N - 1) := by
    refine List.Pairwise.imp_of_mem (R := fun i j => i < j) ?_ List.pairwise_lt_range
    intro i j hi hj hij he
    have hi' := List.mem_range.1 hi
    have hj' := List.mem_range.1 hj
    have p1 := pos i hi'
    have p2 := pos j hj'
    exact unlike i j hij hj' (by omega)
  have hnd : ((List.range (N - 1)).map fun k => g ^ k % N - 1).Nodup := List.pairwise_map.2 hpw
  have hmem : z - 1 ∉ (List.range (N - 1)).map fun k => g ^ k % N - 1 := by
    intro hm
    obtain ⟨k, hk, he⟩ := List.mem_map.1 hm
    have p1 := pos k (List.mem_range.1 hk)
    exact hz k (by omega)
  have hle := nodup_le (N - 1) ((z - 1) :: (List.range (N - 1)).map fun k => g ^ k % N - 1) (List.nodup_cons.2 ⟨hmem, hnd⟩) (by
    intro x hx
    rcases List.mem_cons.1 hx with rfl | hx
    · omega
    · obtain ⟨k, hk, rfl⟩ := List.mem_map.1 hx
      have p1 := pos k (List.mem_range.1 hk)
      have p2 : g ^ k % N < N := Nat.mod_lt _ (by omega)
      omega)
  simp only [List.length_cons, List.length_map, List.length_range] at hle
  omega
theorem pratt_fermat {l : List Nat} (hN : 2 ≤ N) (hg : g ^ (N - 1) % N = 1) (hl : prodL l = N - 1) (hp : ∀ f ∈ l, IsPrime f) (hf : ∀ f ∈ l, g ^ ((N - 1) / f) % N ≠ 1) : ∀ z, z % N ≠ 0 → z ^ (N - 1) % N = 1 := by
  intro z hz
  obtain ⟨k, hk⟩ := pratt_all hN hg hl hp hf (z % N) (Nat.pos_of_ne_zero hz) (Nat.mod_lt _ (by omega))
  rw [Nat.pow_mod, ← hk, ← Nat.pow_mod, ← Nat.pow_mul, Nat.mul_comm k]
  exact pow_one_mul (by omega) hg k
theorem pratt_prime {l : List Nat} (hN : 2 ≤ N) (hg : g ^ (N - 1) % N = 1) (hl : prodL l = N - 1) (hp : ∀ f ∈ l, IsPrime f) (hf : ∀ f ∈ l, g ^ ((N - 1) / f) % N ≠ 1) : IsPrime N := by
  refine ⟨hN, fun d hd => ?_⟩
  have h0 : d ≠ 0 := fun e => by subst e; have := Nat.zero_dvd.1 hd; omega
  have hle := Nat.le_of_dvd (by omega) hd
  by_cases hdN : d = N
  · exact .inr hdN
  · have h1 := pratt_fermat hN hg hl hp hf d (by rw [Nat.mod_eq_of_lt (by omega)]; exact h0)
    refine .inl ?_
    -- d divides its power and N, so it divides 1
    have hdp : d ∣ d ^ (N - 1) := by
      have : N - 1 = (N - 2) + 1 := by omega
      rw [this, Nat.pow_succ]
      exact Nat.dvd_mul_left d _
    have h2 : d ∣ d ^ (N - 1) % N := (Nat.dvd_mod_iff hd).2 hdp
    rw [h1] at h2
    exact Nat.dvd_one.1 h2
end

/-- A power by N, bit by bit. -/
def powM (N : Nat) : Nat → Nat → Nat → Nat → Nat
  | 0, _, _, acc => acc
  | f + 1, e, b, acc => powM N f (e / 2) (b * b % N) (if e % 2 = 1 then acc * b % N else acc)
theorem powM_is (N : Nat) : ∀ f e b acc, e < 2 ^ f → powM N f e b acc % N = acc * b ^ e % N
  | 0, e, b, acc, h => by
    have : e = 0 := by simpa using h
    subst this
    simp [powM]
  | f + 1, e, b, acc, h => by
    have h2 : e / 2 < 2 ^ f := by rw [Nat.pow_succ] at h; omega
    have hb : (b * b % N) ^ (e / 2) % N = b ^ (2 * (e / 2)) % N := by rw [← Nat.pow_mod, Nat.pow_mul, Nat.pow_two]
    rw [powM, powM_is N f (e / 2) _ _ h2, Nat.mul_mod, hb]
    split
    · rename_i ho
      have he : e = 2 * (e / 2) + 1 := by omega
      conv => rhs; rw [he, Nat.pow_succ]
      rw [Nat.mod_mod, ← Nat.mul_mod, Nat.mul_comm (b ^ (2 * (e / 2))) b, Nat.mul_assoc]
    · have he : e = 2 * (e / 2) := by omega
      conv => rhs; rw [he]
      rw [← Nat.mul_mod]
theorem powM_one {N f e b : Nat} (h : e < 2 ^ f) : b ^ e % N = powM N f e b 1 % N := by rw [powM_is N f e b 1 h, Nat.one_mul]
/-- Pratt's test, for one number: g's power is 1, and no power by a factor is. -/
def prattB (N g f : Nat) (l : List Nat) : Bool := prodL l == N - 1 && powM N f (N - 1) g 1 % N == 1 && l.all (fun q => powM N f ((N - 1) / q) g 1 % N != 1) && decide (N ≤ 2 ^ f) && decide (2 ≤ N)
theorem prattB_prime {N g f : Nat} {l : List Nat} (h : prattB N g f l = true) (hp : ∀ q ∈ l, IsPrime q) : IsPrime N ∧ ∀ z, z % N ≠ 0 → z ^ (N - 1) % N = 1 := by
  simp only [prattB, Bool.and_eq_true, beq_iff_eq, decide_eq_true_eq, List.all_eq_true, bne_iff_ne] at h
  obtain ⟨⟨⟨⟨h1, h2⟩, h3⟩, h4⟩, h5⟩ := h
  have hg : g ^ (N - 1) % N = 1 := by rw [powM_one (f := f) (by omega)]; exact h2
  have hf : ∀ q ∈ l, g ^ ((N - 1) / q) % N ≠ 1 := fun q hq => by
    have hle : (N - 1) / q ≤ N - 1 := Nat.div_le_self _ _
    rw [powM_one (f := f) (by omega)]
    exact h3 q hq
  exact ⟨pratt_prime h5 hg h1 hp hf, pratt_fermat h5 hg h1 hp hf⟩

-- THE NUMBERS
/-- No number from 2 to k - 1 divides n. -/
def trialB (n k : Nat) : Bool := decide (2 ≤ n) && decide (n < k * k) && (List.range k).all fun d => decide (d < 2) || decide (n ≤ d) || n % d != 0
theorem trial_prime {n k : Nat} (h : trialB n k = true) : IsPrime n := by
  simp only [trialB, Bool.and_eq_true, decide_eq_true_eq, List.all_eq_true, List.mem_range, Bool.or_eq_true, bne_iff_ne] at h
  obtain ⟨⟨h2, hk⟩, hall⟩ := h
  refine ⟨h2, fun d hd => ?_⟩
  obtain ⟨c, rfl⟩ := hd
  by_cases hd1 : d = 1
  · exact .inl hd1
  by_cases hc1 : c = 1
  · subst hc1; exact .inr (by simp)
  exfalso
  have hd0 : d ≠ 0 := fun e => by subst e; simp at h2
  have hc0 : c ≠ 0 := fun e => by subst e; simp at h2
  have hlt : d < k ∨ c < k := by
    rcases Nat.lt_or_ge d k with h | h
    · exact .inl h
    · rcases Nat.lt_or_ge c k with h' | h'
      · exact .inr h'
      · exact absurd hk (Nat.not_lt.2 (Nat.mul_le_mul h h'))
  have big1 : d < d * c := by
    have : d * 1 < d * c := Nat.mul_lt_mul_of_pos_left (by omega) (by omega)
    omega
  have big2 : c < d * c := by
    have : 1 * c < d * c := Nat.mul_lt_mul_of_pos_right (by omega) (by omega)
    omega
  rcases hlt with h | h
  · rcases hall d h with (h' | h') | h'
    · omega
    · omega
    · exact h' (Nat.mul_mod_right d c)
  · rcases hall c h with (h' | h') | h'
    · omega
    · omega
    · exact h' (Nat.mul_mod_left d c)
theorem prime_2 : IsPrime 2 := trial_prime (k := 2) (by decide +kernel)
theorem prime_3 : IsPrime 3 := trial_prime (k := 2) (by decide +kernel)
theorem prime_5 : IsPrime 5 := trial_prime (k := 3) (by decide +kernel)
theorem prime_7 : IsPrime 7 := trial_prime (k := 3) (by decide +kernel)
theorem prime_13 : IsPrime 13 := trial_prime (k := 4) (by decide +kernel)
theorem prime_19 : IsPrime 19 := trial_prime (k := 5) (by decide +kernel)
theorem prime_31 : IsPrime 31 := trial_prime (k := 6) (by decide +kernel)
theorem prime_43 : IsPrime 43 := trial_prime (k := 7) (by decide +kernel)
theorem prime_47 : IsPrime 47 := trial_prime (k := 7) (by decide +kernel)
theorem prime_103 : IsPrime 103 := trial_prime (k := 11) (by decide +kernel)
theorem prime_107 : IsPrime 107 := trial_prime (k := 11) (by decide +kernel)
theorem prime_127 : IsPrime 127 := trial_prime (k := 12) (by decide +kernel)
theorem prime_223 : IsPrime 223 := trial_prime (k := 15) (by decide +kernel)
theorem prime_353 : IsPrime 353 := trial_prime (k := 19) (by decide +kernel)
theorem prime_991 : IsPrime 991 := trial_prime (k := 32) (by decide +kernel)
theorem prime_2437 : IsPrime 2437 := trial_prime (k := 50) (by decide +kernel)
theorem prime_3727 : IsPrime 3727 := trial_prime (k := 62) (by decide +kernel)
theorem prime_4153 : IsPrime 4153 := trial_prime (k := 65) (by decide +kernel)
theorem prime_57467 : IsPrime 57467 := trial_prime (k := 240) (by decide +kernel)
theorem prime_65147 : IsPrime 65147 := trial_prime (k := 256) (by decide +kernel)
theorem prime_75707 : IsPrime 75707 := trial_prime (k := 276) (by decide +kernel)
theorem prime_132049 : IsPrime 132049 := trial_prime (k := 364) (by decide +kernel)
theorem prime_430751 : IsPrime 430751 := trial_prime (k := 657) (by decide +kernel)
theorem prime_569003 : IsPrime 569003 := trial_prime (k := 755) (by decide +kernel)
theorem prime_1923133 : IsPrime 1923133 :=
  prattB_prime (g := 2) (f := 21) (l := [2, 2, 3, 43, 3727]) (by decide +kernel) (by
    intro q hq
    simp only [List.mem_cons, List.not_mem_nil, or_false] at hq
    rcases hq with rfl | rfl | rfl | rfl | rfl
    · exact prime_2
    · exact prime_2
    · exact prime_3
    · exact prime_43
    · exact prime_3727) |>.1
theorem prime_8574133 : IsPrime 8574133 :=
  prattB_prime (g := 2) (f := 24) (l := [2, 2, 3, 7, 103, 991]) (by decide +kernel) (by
    intro q hq
    simp only [List.mem_cons, List.not_mem_nil, or_false] at hq
    rcases hq with rfl | rfl | rfl | rfl | rfl | rfl
    · exact prime_2
    · exact prime_2
    · exact prime_3
    · exact prime_7
    · exact prime_103
    · exact prime_991) |>.1
theorem prime_2773320623 : IsPrime 2773320623 :=
  prattB_prime (g := 5) (f := 32) (l := [2, 2437, 569003]) (by decide +kernel) (by
    intro q hq
    simp only [List.mem_cons, List.not_mem_nil, or_false] at hq
    rcases hq with rfl | rfl | rfl
    · exact prime_2
    · exact prime_2437
    · exact prime_569003) |>.1
theorem prime_72106336199 : IsPrime 72106336199 :=
  prattB_prime (g := 7) (f := 37) (l := [2, 13, 2773320623]) (by decide +kernel) (by
    intro q hq
    simp only [List.mem_cons, List.not_mem_nil, or_false] at hq
    rcases hq with rfl | rfl | rfl
    · exact prime_2
    · exact prime_13
    · exact prime_2773320623) |>.1
theorem prime_n16 : IsPrime 1919519569386763 :=
  prattB_prime (g := 2) (f := 51) (l := [2, 3, 7, 19, 47, 47, 127, 8574133]) (by decide +kernel) (by
    intro q hq
    simp only [List.mem_cons, List.not_mem_nil, or_false] at hq
    rcases hq with rfl | rfl | rfl | rfl | rfl | rfl | rfl | rfl
    · exact prime_2
    · exact prime_3
    · exact prime_7
    · exact prime_19
    · exact prime_47
    · exact prime_47
    · exact prime_127
    · exact prime_8574133) |>.1
theorem prime_n17 : IsPrime 31757755568855353 :=
  prattB_prime (g := 10) (f := 55) (l := [2, 2, 2, 3, 31, 107, 223, 4153, 430751]) (by decide +kernel) (by
    intro q hq
    simp only [List.mem_cons, List.not_mem_nil, or_false] at hq
    rcases hq with rfl | rfl | rfl | rfl | rfl | rfl | rfl | rfl | rfl
    · exact prime_2
    · exact prime_2
    · exact prime_2
    · exact prime_3
    · exact prime_31
    · exact prime_107
    · exact prime_223
    · exact prime_4153
    · exact prime_430751) |>.1
theorem prime_n35 : IsPrime 75445702479781427272750846543864801 :=
  prattB_prime (g := 7) (f := 116) (l := [2, 2, 2, 2, 2, 3, 3, 5, 5, 75707, 72106336199, 1919519569386763]) (by decide +kernel) (by
    intro q hq
    simp only [List.mem_cons, List.not_mem_nil, or_false] at hq
    rcases hq with rfl | rfl | rfl | rfl | rfl | rfl | rfl | rfl | rfl | rfl | rfl | rfl
    · exact prime_2
    · exact prime_2
    · exact prime_2
    · exact prime_2
    · exact prime_2
    · exact prime_3
    · exact prime_3
    · exact prime_5
    · exact prime_5
    · exact prime_75707
    · exact prime_72106336199
    · exact prime_n16) |>.1
theorem prime_n71 : IsPrime 74058212732561358302231226437062788676166966415465897661863160754340907 :=
  prattB_prime (g := 2) (f := 236) (l := [2, 3, 353, 57467, 132049, 1923133, 31757755568855353, 75445702479781427272750846543864801]) (by decide +kernel) (by
    intro q hq
    simp only [List.mem_cons, List.not_mem_nil, or_false] at hq
    rcases hq with rfl | rfl | rfl | rfl | rfl | rfl | rfl | rfl
    · exact prime_2
    · exact prime_3
    · exact prime_353
    · exact prime_57467
    · exact prime_132049
    · exact prime_1923133
    · exact prime_n17
    · exact prime_n35) |>.1
theorem prime_n77 : IsPrime 57896044618658097711785492504343953926634992332820282019728792003956564819949 ∧ ∀ z, z % 57896044618658097711785492504343953926634992332820282019728792003956564819949 ≠ 0 → z ^ (57896044618658097711785492504343953926634992332820282019728792003956564819949 - 1) % 57896044618658097711785492504343953926634992332820282019728792003956564819949 = 1 :=
  prattB_prime (g := 2) (f := 255) (l := [2, 2, 3, 65147, 74058212732561358302231226437062788676166966415465897661863160754340907]) (by decide +kernel) (by
    intro q hq
    simp only [List.mem_cons, List.not_mem_nil, or_false] at hq
    rcases hq with rfl | rfl | rfl | rfl | rfl
    · exact prime_2
    · exact prime_2
    · exact prime_3
    · exact prime_65147
    · exact prime_n71)

end Go.Proofs.Ytghoibggmddkmao
