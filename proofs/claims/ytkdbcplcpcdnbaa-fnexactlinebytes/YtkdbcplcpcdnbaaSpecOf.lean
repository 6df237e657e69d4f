/-
  How many items there are of a route, as the specification counts them; conditions: items that lie there, as many as a law hands over.
-/
import Derived.Test.YtkdbcplcpcdnbaaItemArg
import Derived.Test.YtkdbcplcpcdnbaaItem
namespace Go.Proofs.Ytkdbcplcpcdnbaa
open Go.RowKit
set_option maxRecDepth 100000

theorem bit_any (b : Bool) (X : World) : Calls Try.prog 54 #[.bool b] X fun e w' => e = .returned (.int .i64 (if b then 1 else 0)) ∧ w' = X := by
  cases b
  · go_enter Try.func54, Try.ntmps54
    go_wp2_with (fail)
    go_ret
    exact ⟨rfl, rfl⟩
  · go_enter Try.func54, Try.ntmps54
    go_wp2_with (fail)
    go_ret
    exact ⟨rfl, rfl⟩

/-- How many are of that route. -/
def cntI (s : ByteArray) (its : List ItA) : Nat := its.countP (fun x => decide (x.s = s))

theorem cntI_step (s : ByteArray) (its : List ItA) (k : Nat) (hk : k < its.length) : cntI s (its.take (k + 1)) = cntI s (its.take k) + if (its.getD k default).s = s then 1 else 0 := by
  unfold cntI
  have e : its.take (k + 1) = its.take k ++ [its.getD k default] := by
    rw [List.take_add_one, List.getElem?_eq_getElem hk]
    simp [List.getD_eq_getElem?_getD, List.getElem?_eq_getElem hk]
  rw [e, List.countP_append, List.countP_singleton]
  by_cases h : (its.getD k default).s = s <;> simp
theorem cntI_le (s : ByteArray) (its : List ItA) : cntI s its ≤ its.length := List.countP_le_length

theorem str_eq_any (a b : ByteArray) : (a.toList == b.toList) = decide (a = b) := by
  by_cases h : a = b
  · subst h; simp
  · rw [str_ne h, decide_eq_false h]

set_option maxHeartbeats 2000000 in
theorem specOf_any (p : Option Addr) (n c : Nat) (its : List ItA) (s : ByteArray) (w : World) (hn : n ≤ 1048576) (hl : its.length = n) (h : ItemsIn w p n its) :
    Calls Try.prog 22 #[.slice p n c, .string s] w fun e w' => e = .returned (.int .i64 (cntI s its)) ∧ w' = w := by
  go_enter Try.func22, Try.ntmps22
  go_wp2_with (fail)
  go_loopw [5, 6] (fun a i wr => ∃ k : Nat, k ≤ n ∧ i = .int .i64 k ∧ (∃ m : Nat, a = .int .i64 m ∧ Hid (m = cntI s (its.take k)) ∧ m ≤ 1048576) ∧ wr = w) (fun _ i _ => n - (intOf i).toNat)
  case atStart => exact ⟨0, Nat.zero_le _, rfl, ⟨0, rfl, rfl, by omega⟩, rfl⟩
  case round =>
    obtain ⟨k, hk, rfl, ⟨m, rfl, hm, hm1⟩, rfl⟩ := hrel
    by_cases hlt : k < n
    · obtain ⟨b, o, rfl, hc⟩ := h (by omega)
      have h1 : wr.cell? ⟨b, o + k * 4, none⟩ = some (.string (its.getD k default).s) := hc k 0 _ hlt rfl
      have hst := cntI_step s its k (by omega)
      have hle := cntI_le s (its.take (k + 1))
      generalize (its.getD k default).s = u at h1 hst
      clear hc h
      have e1 := str_eq_any u s
      go_wp2_with (fail)
      refine (bit_any _ _).mono ?_
      rintro z w1 ⟨rfl, rfl⟩
      obtain ⟨g, hg⟩ : ∃ g : Nat, g = if u = s then 1 else 0 := ⟨_, rfl⟩
      have eg : (if decide (u = s) = true then (1 : Int) else 0) = (g : Int) := by
        rw [hg]
        by_cases hh : u = s <;> simp [hh]
      rw [eg]
      have hg1 : g ≤ 1 := by rw [hg]; split <;> omega
      have hnew : Hid (m + g = cntI s (its.take (k + 1))) := by rw [Hid, hst, ← hg, ← hm.out]
      have hmg : m + g ≤ 1048576 := by
        have := hnew.out
        have := List.length_take_le (k + 1) its
        rw [List.length_take] at hle
        omega
      clear hg eg e1 hst hle hm
      go_wp2_with (fail)
      go_roundw
      case rel => exact ⟨k + 1, by omega, by go_num, ⟨m + g, by go_num, hnew, hmg⟩, trivial⟩
      case measure => simp [intOf]; omega
    · have hkn : k = n := by omega
      subst hkn
      have hall : Hid (m = cntI s its) := by rw [Hid, hm.out, ← hl, List.take_length]
      clear hm
      go_wp2_with (fail)
      go_ret
      exact ⟨by rw [← hall.out]; rfl, rfl⟩

end Go.Proofs.Ytkdbcplcpcdnbaa
