/-
  Seal and Open beside others: what is wanted of sizes, by own steps; where it is not right, a panic goes up to the caller.
  Seal and Open beside others: the sizes that are wanted, all of them.
  Seal and Open beside others: variables of one cell; the deferred closure, at a return and at a panic.
  Seal beside others: its own steps, to its refusal, or to the call of Stream.
  Seal beside others: from its entry to its refusal, or to the call of Stream.
  Seal beside others: its own steps behind Stream's call.
  Seal beside others: behind Concat's call, to its end.
  Seal beside others: behind sealTag's call, to Concat's.
  Numbers for words of 32 bits: what is left by 2^32 and by 32 as the masks tell it, and a word turned left, as the two or's of its parts tell it; each at its own bounds.
  Plain facts on worlds and lists of ints for the proofs of this seat, as those of Plain on bytes: what a row of ints that the call made reads as, that it stays, what is stored into it and appended to it; and an append of bytes that lie somewhere. Conditions: none beyond each fact's own.
  The int's row of the program's table of types.
  A quarter round over words, as numbers; lists with four places set.
  What spec.Word and impl.Word answer at every int: what is left by 2^32; no condition.
  What bits.RotateLeft32, spec.Turn and impl.Turn answer at every two ints: the word turned left by what is left of k by 32; no condition.
-/
import Derived.Test.YthjapmdikbmmkaaDoorPary14
import Derived.Great.BuildSlice
import Derived.Test.YthjapmdikbmmkaaDoorPary13
import Derived.Test.YthjapmdikbmmkaaDoorPary11
namespace Go.Proofs.YthjapmdikbmmkaaDoor
open Go Go.Conc
set_option maxRecDepth 100000

section
variable {P : Program} {main : Bool} {b : Frame} {a : Act} {cs : List Frame} {w : World}
theorem stepG_end0 : stepG P main (G (b.at a []) cs) w = .go (G { b.at a [] with mode := .returning } cs) w #[] := by simp [G, stepG, stepG.exec, Frame.at]
end

def bW : Frame := { (default : Frame) with fn := 33, kind := .normal }
noncomputable def bodyW : Code := Tryd.f33.body.getD .skip
theorem enter_W (x y : Value) : Frame.enter Tryd.prog 33 #[x, y] .normal = bW.at ⟨#[x, y] ++ Array.replicate 6 undef, []⟩ [.code bodyW] := by
  simp [Frame.enter, Frame.at, bW, bodyW, Tryd.func33, Tryd.f33]
def pan (s : ByteArray) : List PanicEntry := [{ v := .iface 9 (.string s), recovered := false }]

section
variable {Sh : Nat → Prop} {Stop : (Nat → Prop) → Goroutine → World → Prop} {M : Nat → Prop} {w : World}
theorem want_yes (s : ByteArray) (c : Frame) (cs : List Frame) (next : Co Tryd.prog true Sh Stop M (G (c.finish undef) cs) w) : Co Tryd.prog true Sh Stop M (G (Frame.enter Tryd.prog 33 #[.bool true, .string s] .normal) (c :: cs)) w := by
  rw [enter_W]
  simp only [bodyW, Tryd.f33, Option.getD_some]
  walk_nrm
  iterate 2 (first | with_reducible refine Co.ctlG (fun _ => by first | exact stepG_seq | exact stepG_skip | exact stepG_block | exact stepG_loop | exact stepG_inLoop | exact stepG_inBlock | exact stepG_region_end) ?_ | (with_reducible refine Co.ctlG (fun _ => stepG_region) ?_; (try simp only [List.size_toArray]); (try simp only [List.length_cons]); (try simp only [List.length_nil]); (try simp only [Nat.zero_add]); (try simp only [Nat.reduceAdd]); (try simp only [List.range]); (try simp only [List.range.loop])))
  refine Co.value (v := .bool true) rfl rfl (by decide) (fun _ => by simp [go_sem, execOp, Act.eval]) (fun _ => by simp [go_sem, execOp, Act.eval]) ?_
  walk_nrm
  refine Co.value (v := .bool false) rfl rfl (by decide) (fun _ => by simp [go_sem, execOp, Act.eval]) (fun _ => by simp [go_sem, execOp, Act.eval]) ?_
  walk_nrm
  (first | with_reducible refine Co.ctlG (fun _ => by first | exact stepG_seq | exact stepG_skip | exact stepG_block | exact stepG_loop | exact stepG_inLoop | exact stepG_inBlock | exact stepG_region_end) ?_ | (with_reducible refine Co.ctlG (fun _ => stepG_region) ?_; (try simp only [List.size_toArray]); (try simp only [List.length_cons]); (try simp only [List.length_nil]); (try simp only [Nat.zero_add]); (try simp only [Nat.reduceAdd]); (try simp only [List.range]); (try simp only [List.range.loop])))
  refine Co.ctlG (fun _ => stepG_cond (t := false) rfl) ?_
  simp only [Bool.false_eq_true, if_false]
  (first | with_reducible refine Co.ctlG (fun _ => by first | exact stepG_seq | exact stepG_skip | exact stepG_block | exact stepG_loop | exact stepG_inLoop | exact stepG_inBlock | exact stepG_region_end) ?_ | (with_reducible refine Co.ctlG (fun _ => stepG_region) ?_; (try simp only [List.size_toArray]); (try simp only [List.length_cons]); (try simp only [List.length_nil]); (try simp only [Nat.zero_add]); (try simp only [Nat.reduceAdd]); (try simp only [List.range]); (try simp only [List.range.loop])))
  refine Co.ctlG (fun _ => stepG_end0) ?_
  exact .ctl rfl (fun w1 => stepG_leave rfl rfl Tryd.func33 (by simp [results, Tryd.f33]; rfl) (by simp [results, Tryd.f33])) next
theorem want_no (s : ByteArray) (c : Frame) (cs : List Frame) (hc : c.mode = .run) (next : Co Tryd.prog true Sh Stop M (G { c with mode := .panicking (pan s) } cs) w) : Co Tryd.prog true Sh Stop M (G (Frame.enter Tryd.prog 33 #[.bool false, .string s] .normal) (c :: cs)) w := by
  rw [enter_W]
  simp only [bodyW, Tryd.f33, Option.getD_some]
  walk_nrm
  iterate 2 (first | with_reducible refine Co.ctlG (fun _ => by first | exact stepG_seq | exact stepG_skip | exact stepG_block | exact stepG_loop | exact stepG_inLoop | exact stepG_inBlock | exact stepG_region_end) ?_ | (with_reducible refine Co.ctlG (fun _ => stepG_region) ?_; (try simp only [List.size_toArray]); (try simp only [List.length_cons]); (try simp only [List.length_nil]); (try simp only [Nat.zero_add]); (try simp only [Nat.reduceAdd]); (try simp only [List.range]); (try simp only [List.range.loop])))
  refine Co.value (v := .bool false) rfl rfl (by decide) (fun _ => by simp [go_sem, execOp, Act.eval]) (fun _ => by simp [go_sem, execOp, Act.eval]) ?_
  walk_nrm
  refine Co.value (v := .bool true) rfl rfl (by decide) (fun _ => by simp [go_sem, execOp, Act.eval]) (fun _ => by simp [go_sem, execOp, Act.eval]) ?_
  walk_nrm
  (first | with_reducible refine Co.ctlG (fun _ => by first | exact stepG_seq | exact stepG_skip | exact stepG_block | exact stepG_loop | exact stepG_inLoop | exact stepG_inBlock | exact stepG_region_end) ?_ | (with_reducible refine Co.ctlG (fun _ => stepG_region) ?_; (try simp only [List.size_toArray]); (try simp only [List.length_cons]); (try simp only [List.length_nil]); (try simp only [Nat.zero_add]); (try simp only [Nat.reduceAdd]); (try simp only [List.range]); (try simp only [List.range.loop])))
  refine Co.ctlG (fun _ => stepG_cond (t := true) rfl) ?_
  simp only [if_true]
  (first | with_reducible refine Co.ctlG (fun _ => by first | exact stepG_seq | exact stepG_skip | exact stepG_block | exact stepG_loop | exact stepG_inLoop | exact stepG_inBlock | exact stepG_region_end) ?_ | (with_reducible refine Co.ctlG (fun _ => stepG_region) ?_; (try simp only [List.size_toArray]); (try simp only [List.length_cons]); (try simp only [List.length_nil]); (try simp only [Nat.zero_add]); (try simp only [Nat.reduceAdd]); (try simp only [List.range]); (try simp only [List.range.loop])))
  refine Co.value (v := .string s) rfl rfl (by decide) (fun _ => by simp [go_sem, execOp, Act.eval]) (fun _ => by simp [go_sem, execOp, Act.eval]) ?_
  walk_nrm
  refine Co.value (v := .iface 9 (.string s)) rfl rfl (by decide) (fun _ => by simp [go_sem, execOp, Act.eval]) (fun _ => by first | rfl | kernel_rfl) ?_
  walk_nrm
  refine .ctl rfl (fun w1 => stepG_panics (t := 9) (v := .string s) rfl rfl (by decide) rfl rfl) ?_
  exact .ctl rfl (fun w1 => stepG_raises rfl Tryd.func33 hc) next
end

end Go.Proofs.YthjapmdikbmmkaaDoor

namespace Go.Proofs.YthjapmdikbmmkaaDoor
open Go Go.Conc
set_option maxRecDepth 100000

def bZ : Frame := { (default : Frame) with fn := 25, kind := .normal }
noncomputable def bodyZ : Code := Tryd.f25.body.getD .skip
theorem enter_Z (x y z u : Value) : Frame.enter Tryd.prog 25 #[x, y, z, u] .normal = bZ.at ⟨#[x, y, z, u] ++ Array.replicate 23 undef, []⟩ [.code bodyZ] := by
  simp [Frame.enter, Frame.at, bZ, bodyZ, Tryd.func25, Tryd.f25]
def SizesOk (kn nn an : Nat) (pl : Int) : Prop := kn = 32 ∧ nn = 12 ∧ an ≤ 1500 ∧ 0 ≤ pl ∧ pl ≤ 1500

section
variable {Sh : Nat → Prop} {Stop : (Nat → Prop) → Goroutine → World → Prop} {M : Nat → Prop} {w : World}
set_option maxHeartbeats 4000000 in
theorem sizes_R (kp np ap : Option Addr) (kn kc nn nc an ac : Nat) (pl : Int) (c : Frame) (cs : List Frame) (hc : c.mode = .run) (yes : SizesOk kn nn an pl → Co Tryd.prog true Sh Stop M (G (c.finish undef) cs) w) (no : ¬ SizesOk kn nn an pl → ∀ s, Co Tryd.prog true Sh Stop M (G { c with mode := .panicking (pan s) } cs) w) :
    Co Tryd.prog true Sh Stop M (G (Frame.enter Tryd.prog 25 #[.slice kp kn kc, .slice np nn nc, .slice ap an ac, .int .i64 pl] .normal) (c :: cs)) w := by
  rw [enter_Z]
  simp only [bodyZ, Tryd.f25, Option.getD_some]
  walk_nrm
  iterate 2 (first | with_reducible refine Co.ctlG (fun _ => by first | exact stepG_seq | exact stepG_skip | exact stepG_block | exact stepG_loop | exact stepG_inLoop | exact stepG_inBlock | exact stepG_region_end) ?_ | (with_reducible refine Co.ctlG (fun _ => stepG_region) ?_; (try simp only [List.size_toArray]); (try simp only [List.length_cons]); (try simp only [List.length_nil]); (try simp only [Nat.zero_add]); (try simp only [Nat.reduceAdd]); (try simp only [List.range]); (try simp only [List.range.loop])))
  by_cases h1 : (kn : Int) = 32
  · refine Co.value (v := .slice kp kn kc) rfl rfl (by decide) (fun _ => by simp [go_sem, execOp, Act.eval]) (fun _ => by simp [go_sem, execOp, Act.eval]) ?_
    walk_nrm
    refine Co.value (v := .int .i64 kn) rfl rfl (by decide) (fun _ => by simp [go_sem, execOp, Act.eval]) (fun _ => by simp [go_sem, execOp, Act.eval]) ?_
    walk_nrm
    refine Co.value (v := .bool true) rfl rfl (by decide) (fun _ => by simp [go_sem, execOp, Act.eval, h1]) (fun _ => by simp [go_sem, execOp, Act.eval]) ?_
    walk_nrm
    refine Co.call rfl rfl (by decide) rfl Tryd.func33 (by kernel_rfl) (by kernel_rfl) ?_
    walk_nrm
    refine want_yes _ _ _ ?_
    rw [Frame.finish_at]
    walk_nrm
    iterate 3 (first | with_reducible refine Co.ctlG (fun _ => by first | exact stepG_seq | exact stepG_skip | exact stepG_block | exact stepG_loop | exact stepG_inLoop | exact stepG_inBlock | exact stepG_region_end) ?_ | (with_reducible refine Co.ctlG (fun _ => stepG_region) ?_; (try simp only [List.size_toArray]); (try simp only [List.length_cons]); (try simp only [List.length_nil]); (try simp only [Nat.zero_add]); (try simp only [Nat.reduceAdd]); (try simp only [List.range]); (try simp only [List.range.loop])))
    by_cases h2 : (nn : Int) = 12
    · refine Co.value (v := .slice np nn nc) rfl rfl (by decide) (fun _ => by simp [go_sem, execOp, Act.eval]) (fun _ => by simp [go_sem, execOp, Act.eval]) ?_
      walk_nrm
      refine Co.value (v := .int .i64 nn) rfl rfl (by decide) (fun _ => by simp [go_sem, execOp, Act.eval]) (fun _ => by simp [go_sem, execOp, Act.eval]) ?_
      walk_nrm
      refine Co.value (v := .bool true) rfl rfl (by decide) (fun _ => by simp [go_sem, execOp, Act.eval, h2]) (fun _ => by simp [go_sem, execOp, Act.eval]) ?_
      walk_nrm
      refine Co.call rfl rfl (by decide) rfl Tryd.func33 (by kernel_rfl) (by kernel_rfl) ?_
      walk_nrm
      refine want_yes _ _ _ ?_
      rw [Frame.finish_at]
      walk_nrm
      iterate 3 (first | with_reducible refine Co.ctlG (fun _ => by first | exact stepG_seq | exact stepG_skip | exact stepG_block | exact stepG_loop | exact stepG_inLoop | exact stepG_inBlock | exact stepG_region_end) ?_ | (with_reducible refine Co.ctlG (fun _ => stepG_region) ?_; (try simp only [List.size_toArray]); (try simp only [List.length_cons]); (try simp only [List.length_nil]); (try simp only [Nat.zero_add]); (try simp only [Nat.reduceAdd]); (try simp only [List.range]); (try simp only [List.range.loop])))
      by_cases h3 : (an : Int) ≤ 1500
      · refine Co.value (v := .slice ap an ac) rfl rfl (by decide) (fun _ => by simp [go_sem, execOp, Act.eval]) (fun _ => by simp [go_sem, execOp, Act.eval]) ?_
        walk_nrm
        refine Co.value (v := .int .i64 an) rfl rfl (by decide) (fun _ => by simp [go_sem, execOp, Act.eval]) (fun _ => by simp [go_sem, execOp, Act.eval]) ?_
        walk_nrm
        refine Co.value (v := .bool true) rfl rfl (by decide) (fun _ => by simp [go_sem, execOp, Act.eval, h3]) (fun _ => by simp [go_sem, execOp, Act.eval]) ?_
        walk_nrm
        refine Co.call rfl rfl (by decide) rfl Tryd.func33 (by kernel_rfl) (by kernel_rfl) ?_
        walk_nrm
        refine want_yes _ _ _ ?_
        rw [Frame.finish_at]
        walk_nrm
        iterate 2 (first | with_reducible refine Co.ctlG (fun _ => by first | exact stepG_seq | exact stepG_skip | exact stepG_block | exact stepG_loop | exact stepG_inLoop | exact stepG_inBlock | exact stepG_region_end) ?_ | (with_reducible refine Co.ctlG (fun _ => stepG_region) ?_; (try simp only [List.size_toArray]); (try simp only [List.length_cons]); (try simp only [List.length_nil]); (try simp only [Nat.zero_add]); (try simp only [Nat.reduceAdd]); (try simp only [List.range]); (try simp only [List.range.loop])))
        by_cases h4 : (0 : Int) ≤ pl
        · by_cases h5 : pl ≤ 1500
          · refine Co.value (v := .int .i64 pl) rfl rfl (by decide) (fun _ => by simp [go_sem, execOp, Act.eval]) (fun _ => by simp [go_sem, execOp, Act.eval]) ?_
            walk_nrm
            refine Co.value (v := .bool true) rfl rfl (by decide) (fun _ => by simp [go_sem, execOp, Act.eval, h4]) (fun _ => by simp [go_sem, execOp, Act.eval]) ?_
            walk_nrm
            refine Co.value (v := .bool true) rfl rfl (by decide) (fun _ => by simp [go_sem, execOp, Act.eval]) (fun _ => by simp [go_sem, execOp, Act.eval]) ?_
            walk_nrm
            refine Co.value (v := .int .i64 pl) rfl rfl (by decide) (fun _ => by simp [go_sem, execOp, Act.eval]) (fun _ => by simp [go_sem, execOp, Act.eval]) ?_
            walk_nrm
            refine Co.value (v := .bool true) rfl rfl (by decide) (fun _ => by simp [go_sem, execOp, Act.eval, h5]) (fun _ => by simp [go_sem, execOp, Act.eval]) ?_
            walk_nrm
            refine Co.value (v := .bool true) rfl rfl (by decide) (fun _ => by simp [go_sem, execOp, Act.eval]) (fun _ => by simp [go_sem, execOp, Act.eval]) ?_
            walk_nrm
            refine Co.call rfl rfl (by decide) rfl Tryd.func33 (by kernel_rfl) (by kernel_rfl) ?_
            walk_nrm
            refine want_yes _ _ _ ?_
            rw [Frame.finish_at]
            walk_nrm
            (first | with_reducible refine Co.ctlG (fun _ => by first | exact stepG_seq | exact stepG_skip | exact stepG_block | exact stepG_loop | exact stepG_inLoop | exact stepG_inBlock | exact stepG_region_end) ?_ | (with_reducible refine Co.ctlG (fun _ => stepG_region) ?_; (try simp only [List.size_toArray]); (try simp only [List.length_cons]); (try simp only [List.length_nil]); (try simp only [Nat.zero_add]); (try simp only [Nat.reduceAdd]); (try simp only [List.range]); (try simp only [List.range.loop])))
            refine Co.ctlG (fun _ => stepG_end0) ?_
            exact .ctl rfl (fun w1 => stepG_leave rfl rfl Tryd.func25 (by simp [results, Tryd.f25]; rfl) (by simp [results, Tryd.f25])) (yes ⟨by omega, by omega, by omega, h4, h5⟩)
          · refine Co.value (v := .int .i64 pl) rfl rfl (by decide) (fun _ => by simp [go_sem, execOp, Act.eval]) (fun _ => by simp [go_sem, execOp, Act.eval]) ?_
            walk_nrm
            refine Co.value (v := .bool true) rfl rfl (by decide) (fun _ => by simp [go_sem, execOp, Act.eval, h4]) (fun _ => by simp [go_sem, execOp, Act.eval]) ?_
            walk_nrm
            refine Co.value (v := .bool true) rfl rfl (by decide) (fun _ => by simp [go_sem, execOp, Act.eval]) (fun _ => by simp [go_sem, execOp, Act.eval]) ?_
            walk_nrm
            refine Co.value (v := .int .i64 pl) rfl rfl (by decide) (fun _ => by simp [go_sem, execOp, Act.eval]) (fun _ => by simp [go_sem, execOp, Act.eval]) ?_
            walk_nrm
            refine Co.value (v := .bool false) rfl rfl (by decide) (fun _ => by simp [go_sem, execOp, Act.eval, h5]) (fun _ => by simp [go_sem, execOp, Act.eval]) ?_
            walk_nrm
            refine Co.value (v := .bool false) rfl rfl (by decide) (fun _ => by simp [go_sem, execOp, Act.eval]) (fun _ => by simp [go_sem, execOp, Act.eval]) ?_
            walk_nrm
            refine Co.call rfl rfl (by decide) rfl Tryd.func33 (by kernel_rfl) (by kernel_rfl) ?_
            walk_nrm
            refine want_no _ _ _ rfl ?_
            exact .ctl rfl (fun w1 => stepG_raises rfl Tryd.func25 hc) (no (fun h => h5 h.2.2.2.2) _)
        · refine Co.value (v := .int .i64 pl) rfl rfl (by decide) (fun _ => by simp [go_sem, execOp, Act.eval]) (fun _ => by simp [go_sem, execOp, Act.eval]) ?_
          walk_nrm
          refine Co.value (v := .bool false) rfl rfl (by decide) (fun _ => by simp [go_sem, execOp, Act.eval, h4]) (fun _ => by simp [go_sem, execOp, Act.eval]) ?_
          walk_nrm
          refine Co.value (v := .bool false) rfl rfl (by decide) (fun _ => by simp [go_sem, execOp, Act.eval]) (fun _ => by simp [go_sem, execOp, Act.eval]) ?_
          walk_nrm
          refine Co.unwanted rfl rfl ?_
          walk_nrm
          refine Co.unwanted rfl rfl ?_
          walk_nrm
          refine Co.value (v := .bool false) rfl rfl (by decide) (fun _ => by simp [go_sem, execOp, Act.eval]) (fun _ => by simp [go_sem, execOp, Act.eval]) ?_
          walk_nrm
          refine Co.call rfl rfl (by decide) rfl Tryd.func33 (by kernel_rfl) (by kernel_rfl) ?_
          walk_nrm
          refine want_no _ _ _ rfl ?_
          exact .ctl rfl (fun w1 => stepG_raises rfl Tryd.func25 hc) (no (fun h => h4 h.2.2.2.1) _)
      · refine Co.value (v := .slice ap an ac) rfl rfl (by decide) (fun _ => by simp [go_sem, execOp, Act.eval]) (fun _ => by simp [go_sem, execOp, Act.eval]) ?_
        walk_nrm
        refine Co.value (v := .int .i64 an) rfl rfl (by decide) (fun _ => by simp [go_sem, execOp, Act.eval]) (fun _ => by simp [go_sem, execOp, Act.eval]) ?_
        walk_nrm
        refine Co.value (v := .bool false) rfl rfl (by decide) (fun _ => by simp [go_sem, execOp, Act.eval, h3]) (fun _ => by simp [go_sem, execOp, Act.eval]) ?_
        walk_nrm
        refine Co.call rfl rfl (by decide) rfl Tryd.func33 (by kernel_rfl) (by kernel_rfl) ?_
        walk_nrm
        refine want_no _ _ _ rfl ?_
        exact .ctl rfl (fun w1 => stepG_raises rfl Tryd.func25 hc) (no (fun h => h3 (by have := h.2.2.1; omega)) _)
    · refine Co.value (v := .slice np nn nc) rfl rfl (by decide) (fun _ => by simp [go_sem, execOp, Act.eval]) (fun _ => by simp [go_sem, execOp, Act.eval]) ?_
      walk_nrm
      refine Co.value (v := .int .i64 nn) rfl rfl (by decide) (fun _ => by simp [go_sem, execOp, Act.eval]) (fun _ => by simp [go_sem, execOp, Act.eval]) ?_
      walk_nrm
      refine Co.value (v := .bool false) rfl rfl (by decide) (fun _ => by simp [go_sem, execOp, Act.eval, h2]) (fun _ => by simp [go_sem, execOp, Act.eval]) ?_
      walk_nrm
      refine Co.call rfl rfl (by decide) rfl Tryd.func33 (by kernel_rfl) (by kernel_rfl) ?_
      walk_nrm
      refine want_no _ _ _ rfl ?_
      exact .ctl rfl (fun w1 => stepG_raises rfl Tryd.func25 hc) (no (fun h => h2 (by rw [h.2.1]; rfl)) _)
  · refine Co.value (v := .slice kp kn kc) rfl rfl (by decide) (fun _ => by simp [go_sem, execOp, Act.eval]) (fun _ => by simp [go_sem, execOp, Act.eval]) ?_
    walk_nrm
    refine Co.value (v := .int .i64 kn) rfl rfl (by decide) (fun _ => by simp [go_sem, execOp, Act.eval]) (fun _ => by simp [go_sem, execOp, Act.eval]) ?_
    walk_nrm
    refine Co.value (v := .bool false) rfl rfl (by decide) (fun _ => by simp [go_sem, execOp, Act.eval, h1]) (fun _ => by simp [go_sem, execOp, Act.eval]) ?_
    walk_nrm
    refine Co.call rfl rfl (by decide) rfl Tryd.func33 (by kernel_rfl) (by kernel_rfl) ?_
    walk_nrm
    refine want_no _ _ _ rfl ?_
    exact .ctl rfl (fun w1 => stepG_raises rfl Tryd.func25 hc) (no (fun h => h1 (by rw [h.1]; rfl)) _)
end

end Go.Proofs.YthjapmdikbmmkaaDoor

namespace Go.Proofs.YthjapmdikbmmkaaDoor
open Go Go.Conc
set_option maxRecDepth 100000

section
variable {P : Program} {main : Bool} {Sh : Nat → Prop} {Stop : (Nat → Prop) → Goroutine → World → Prop} {M N : Nat → Prop} {w : World} {b : Frame} {a : Act} {k : List Item} {cs : List Frame} {ops : Array Oper} {i : Nat} {rest : List Nat} {o : Oper}
theorem mine_one {R : Nat} {z : Value} {e : TypeId} (h : w.heap[R]? = some (.cells #[z] e (0, 0))) (hz : flatC z = true) : ∀ b, (fun b => b = R) b → ∃ o, w.heap[b]? = some o ∧ RelO (idr (fun b => b = R) 0 fun _ => False) 0 o o := fun b hb => by
  have hb' : b = R := hb
  rw [hb']
  exact ⟨_, h, relO_flatF fun v hv => by rw [Array.mem_singleton.1 hv]; exact hz⟩
theorem Co.storeOne {t e : TypeId} {x y : Operand} {β : Nat} {z v : Value} (ho : ops[i]? = some o) (hw : Region.wanted o (yielded ops a.tmps) = true) (hk : b.kind ≠ .early) (hop : o.op = .store t x y) (hx : a.eval x = .pointer (some ⟨β, 0, none⟩)) (hy : a.eval y = v)
    (hβ : w.heap[β]? = some (.cells #[z] e (0, 0))) (hNβ : N β) (hN : ∀ b, N b → M b) (hS : ∀ b, Sh b → ¬ N b) (hSw : ∀ b, Sh b → b < w.heap.size) (hlow : ∀ b, M b → b < w.heap.size) (hv : RelV (idr N 0 fun _ => False) v v) (h1 : v.oneCell' = true) (hi : (P.info? t).map (·.size) = some 1) (hm : ∀ b, N b → ∃ o, w.heap[b]? = some o ∧ RelO (idr N 0 fun _ => False) 0 o o)
    (h : ∀ w1, Keeps M w w1 → Co P main Sh Stop M (G (b.at (a.put o.dst undef) (.inRegion ops rest :: k)) cs) (w1.setRow β #[v])) : Co P main Sh Stop M (G (b.at a (.inRegion ops (i :: rest) :: k)) cs) w := by
  have hb1 : ∀ w1, Keeps M w w1 → w1.heap[β]? = some (.cells #[z] e (0, 0)) := fun w1 hk1 => (hk1.heap _ (hN _ hNβ)).trans hβ
  have hr : ∀ w1, Keeps M w w1 → (execOp a.eval o).run P w1 = .ok .skip (w1.setRow β #[v]) := fun w1 hk1 => by
    unfold execOp
    rw [hop]
    simp [hx, hy, Instr.storeAt, Instr.sureAddr, run_storeVar_one w1 β e t z v (hb1 w1 hk1) hi h1]
  refine Co.skips (N := N) (n := 0) (A := fun _ => False) ho hw hk hN hlow ?_ (fun w1 hk1 => ⟨fun b hb => ?_, fun b hs hb => absurd hb (hS b hs), fun b hb => Nat.lt_of_lt_of_le (hSw b hb) hk1.size, Nat.zero_le _⟩) (fun w1 hk1 => ⟨_, hr w1 hk1⟩) fun w1 hk1 w2 hr2 => ?_
  · unfold execOp
    rw [hop]
    simp only [hx, hy]
    exact sim_unit ((sim_sureAddr (.ptr (show RelA (idr N 0 fun _ => False) ⟨β, 0, none⟩ ⟨β, 0, none⟩ from ⟨show β = β ∧ N β from ⟨rfl, hNβ⟩, rfl, rfl, fun _ => rfl, Nat.zero_le _⟩))).bd fun ρ1 u u' hle hu => sim_storeVar hu (hv.mono hle) t)
  · obtain ⟨o1, g1, g2⟩ := hm b hb
    exact ⟨o1, (hk1.heap _ (hN _ hb)).trans g1, g2⟩
  · rw [hr w1 hk1] at hr2
    cases hr2
    have hg : grown M w1 (w1.setRow β #[v]) = M := grown_self (by simp [World.setRow])
    rw [hg]
    exact h w1 hk1
end

noncomputable def bodyS1 : Code := Tryd.f24.body.getD .skip
section
variable {Sh : Nat → Prop} {Stop : (Nat → Prop) → Goroutine → World → Prop} {M : Nat → Prop} {w : World}
end

end Go.Proofs.YthjapmdikbmmkaaDoor

namespace Go.Proofs.YthjapmdikbmmkaaDoor
open Go Go.Conc
set_option maxRecDepth 100000

def bE : Frame := { (default : Frame) with fn := 8, kind := .normal }
noncomputable def bodyE : Code := Tryd.f8.body.getD .skip
noncomputable def ops2E : Array Oper := match bodyE with | .seq _ (.seq _ (.seq (.region _ o _) _)) => o | _ => #[]
noncomputable def rest2E : Code := match bodyE with | .seq _ (.seq _ (.seq _ t)) => t | _ => .skip
noncomputable def ops3E : Array Oper := match bodyE with | .seq _ (.seq _ (.seq _ (.seq (.region _ o _) _))) => o | _ => #[]
noncomputable def tailE : Code := match bodyE with | .seq _ (.seq _ (.seq _ (.seq _ t))) => t | _ => .skip
def waitE (R O : Nat) : List Deferred := [dval 24 #[.pointer (some ⟨R, 0, none⟩), .pointer (some ⟨O, 0, none⟩)]]
noncomputable def strE (k n a : Value) (bp : Option Addr) (bn bc R O : Nat) (v21 : Value) (l : List Nat) : Frame := bE.at ⟨#[k, n, a, .slice bp bn bc, undef, undef, undef, undef, .pointer (some ⟨R, 0, none⟩), .pointer (some ⟨O, 0, none⟩), undef, .func (.func 24) #[] #[.pointer (some ⟨R, 0, none⟩), .pointer (some ⟨O, 0, none⟩)], k, n, a, .slice bp bn bc, .int .i64 bn, undef, k, n, .slice bp bn bc, v21, undef, undef, undef, undef, undef, undef, undef, undef], waitE R O⟩ [.inRegion ops3E l, .code tailE]
theorem run_loadVar_one {w : World} {g : Nat} {ty e : TypeId} {v : Value} {fr : Nat × Nat} {d : TypeDesc} (hg : w.heap[g]? = some (.cells #[v] e fr)) (hu : Tryd.prog.underlying ty = some d) (hd : (match d with | .struct _ | .array _ _ => true | _ => false) = false) : (loadVar ty ⟨g, 0, none⟩).run Tryd.prog w = .ok v w := by
  have hc : w.cell? ⟨g, 0, none⟩ = some v := by rw [cell_of_row _ _ _ _ _ _ hg]; rfl
  have h1 : (isAgg ty).run Tryd.prog w = .ok false w := by cases d <;> simp_all [isAgg, run_underlying hu]
  simp [loadVar, h1, hc]
section
variable {Sh : Nat → Prop} {Stop : (Nat → Prop) → Goroutine → World → Prop} {M : Nat → Prop} {w : World}
end

end Go.Proofs.YthjapmdikbmmkaaDoor

namespace Go.Proofs.YthjapmdikbmmkaaDoor
open Go Go.Conc
set_option maxRecDepth 100000

section
variable {Sh : Nat → Prop} {Stop : (Nat → Prop) → Goroutine → World → Prop} {M : Nat → Prop} {w : World}
end

end Go.Proofs.YthjapmdikbmmkaaDoor

namespace Go.Proofs.YthjapmdikbmmkaaDoor
open Go Go.Conc
set_option maxRecDepth 100000

noncomputable def ops4E : Array Oper := match tailE with | .seq (.region _ o _) _ => o | _ => #[]
noncomputable def tagE (k n a : Value) (bp : Option Addr) (bn bc R O : Nat) (s v27 : Value) (l : List Nat) : Frame := bE.at ⟨#[k, n, a, .slice bp bn bc, undef, undef, undef, undef, .pointer (some ⟨R, 0, none⟩), .pointer (some ⟨O, 0, none⟩), s, .func (.func 24) #[] #[.pointer (some ⟨R, 0, none⟩), .pointer (some ⟨O, 0, none⟩)], k, n, a, .slice bp bn bc, .int .i64 bn, undef, k, n, .slice bp bn bc, s, s, k, n, a, s, v27, undef, undef], waitE R O⟩ [.inRegion ops4E l, .code .ret]
noncomputable def catE (k n a : Value) (bp : Option Addr) (bn bc R O : Nat) (s v27 : Value) (β : Nat) (v29 : Value) (l : List Nat) : Frame := bE.at ⟨#[k, n, a, .slice bp bn bc, undef, undef, undef, undef, .pointer (some ⟨R, 0, none⟩), .pointer (some ⟨O, 0, none⟩), s, .func (.func 24) #[] #[.pointer (some ⟨R, 0, none⟩), .pointer (some ⟨O, 0, none⟩)], k, n, a, .slice bp bn bc, .int .i64 bn, undef, k, n, .slice bp bn bc, s, s, k, n, a, s, v27, .slice (some ⟨β, 0, none⟩) 2 2, v29], waitE R O⟩ [.inRegion ops4E l, .code .ret]
section
variable {Sh : Nat → Prop} {Stop : (Nat → Prop) → Goroutine → World → Prop} {M N : Nat → Prop} {w : World}
end

end Go.Proofs.YthjapmdikbmmkaaDoor

namespace Go.Proofs.YthjapmdikbmmkaaDoor
open Go Go.Conc
set_option maxRecDepth 100000

section
variable {Sh : Nat → Prop} {Stop : (Nat → Prop) → Goroutine → World → Prop} {M : Nat → Prop} {w : World}
end

end Go.Proofs.YthjapmdikbmmkaaDoor

namespace Go.Proofs.YthjapmdikbmmkaaDoor
open Go Go.Conc
set_option maxRecDepth 100000

section
variable {P : Program} {main : Bool} {Sh : Nat → Prop} {Stop : (Nat → Prop) → Goroutine → World → Prop} {M : Nat → Prop} {w : World} {b : Frame} {a : Act} {k : List Item} {cs : List Frame} {ops : Array Oper} {i : Nat} {rest : List Nat} {o : Oper}
theorem Co.makes {v : Nat → Value} {ob : Obj} (ho : ops[i]? = some o) (hw : Region.wanted o (yielded ops a.tmps) = true) (hk : b.kind ≠ .early) (hr : ∀ w1 : World, (execOp a.eval o).run P w1 = .ok (.value (v w1.heap.size)) { w1 with heap := w1.heap.push ob }) (he : ∀ w1, (execOp a.eval o).events P w1 #[] = #[]) (hM : ∀ b, M b → b < w.heap.size)
    (next : ∀ w1, Keeps M w w1 → Co P main Sh Stop (fun b => M b ∨ b = w1.heap.size) (G (b.at (a.put o.dst (v w1.heap.size)) (.inRegion ops rest :: k)) cs) { w1 with heap := w1.heap.push ob }) : Co P main Sh Stop M (G (b.at a (.inRegion ops (i :: rest) :: k)) cs) w :=
  Co.alloc (g' := fun n => G (b.at (a.put o.dst (v n)) (.inRegion ops rest :: k)) cs) rfl (fun w1 _ => ⟨#[], by rw [stepG_value ho hw hk (hr w1)]; unfold listed; rw [he w1, seen_none], by simp⟩) hM next
end

section
variable {Sh : Nat → Prop} {Stop : (Nat → Prop) → Goroutine → World → Prop} {M : Nat → Prop} {w : World}
end

end Go.Proofs.YthjapmdikbmmkaaDoor

namespace Go.Proofs.YthjapmdikbmmkaaDoor
open Go.RowKit
set_option maxRecDepth 100000

theorem i64_mask (a : Int) (e : Nat) (m : Int) (hm : m = ((2 ^ e - 1 : Nat) : Int)) (he : e ≤ 62) : bits .and .i64 a m = a % ((2 ^ e : Nat) : Int) := by
  have hp : 2 ^ e ≤ 2 ^ 62 := Nat.pow_le_pow_right (by decide) he
  have h0 : 0 < 2 ^ e := Nat.two_pow_pos e
  have eb : (BitVec.ofInt 64 m).toNat = 2 ^ e - 1 := by
    rw [BitVec.toNat_ofInt, hm]
    omega
  have ea : (BitVec.ofInt 64 a).toNat = (a % 18446744073709551616).toNat := by rw [BitVec.toNat_ofInt]; rfl
  have ed : (18446744073709551616 : Int) = ((2 ^ e : Nat) : Int) * ((2 ^ (64 - e) : Nat) : Int) := by
    rw [← Int.natCast_mul, ← Nat.pow_add, show e + (64 - e) = 64 by omega]
    rfl
  have : (BitVec.ofInt 64 a &&& BitVec.ofInt 64 m).toNat = (a % 18446744073709551616).toNat % 2 ^ e := by
    rw [BitVec.toNat_and, ea, eb, Nat.and_two_pow_sub_one_eq_mod]
  show IntKind.i64.wrap ((BitVec.ofInt 64 a &&& BitVec.ofInt 64 m).toNat : Int) = _
  have hlt : (a % 18446744073709551616).toNat % 2 ^ e < 2 ^ e := Nat.mod_lt _ h0
  have e2 : (((a % 18446744073709551616).toNat % 2 ^ e : Nat) : Int) = a % ((2 ^ e : Nat) : Int) := by
    rw [Int.natCast_emod, Int.toNat_of_nonneg (Int.emod_nonneg _ (by decide)), ed, Int.emod_emod_of_dvd _ (Int.dvd_mul_right _ _)]
  rw [this, IntKind.wrap_i64]
  rw [← e2]
  omega

theorem i64_mask32 (a : Int) : bits .and .i64 a 4294967295 = a % 4294967296 := i64_mask a 32 _ rfl (by decide)
theorem i64_mask31 (a : Int) : bits .and .i64 a 31 = a % 32 := i64_mask a 5 _ rfl (by decide)

theorem u64_mask31 (k : Int) : bits .and .u64 (IntKind.u64.wrap k) 31 = k % 32 := by
  have ew : IntKind.u64.wrap k = k % 18446744073709551616 := by rw [IntKind.wrap_u64]
  have ea : (BitVec.ofInt 64 (k % 18446744073709551616)).toNat = (k % 18446744073709551616).toNat := by rw [BitVec.toNat_ofInt]; omega
  have : (BitVec.ofInt 64 (k % 18446744073709551616) &&& BitVec.ofInt 64 31).toNat = (k % 18446744073709551616).toNat % 32 := by
    rw [BitVec.toNat_and, ea]
    show _ &&& (2 ^ 5 - 1) = _
    rw [Nat.and_two_pow_sub_one_eq_mod]
  rw [ew]
  show IntKind.u64.wrap ((BitVec.ofInt 64 (k % 18446744073709551616) &&& BitVec.ofInt 64 31).toNat : Int) = _
  rw [this, IntKind.wrap_u64]
  omega

def turnN (x m : Nat) : Nat := 2 ^ m * (x % 2 ^ (32 - m)) + x / 2 ^ (32 - m)

theorem turn_hi {x m : Nat} (hx : x < 4294967296) (hm : m < 32) : x / 2 ^ (32 - m) < 2 ^ m := by
  rw [Nat.div_lt_iff_lt_mul (Nat.two_pow_pos _), ← Nat.pow_add, show m + (32 - m) = 32 by omega]
  exact hx

theorem turn_lt {x m : Nat} (hx : x < 4294967296) (hm : m < 32) : turnN x m < 4294967296 := by
  have h1 := turn_hi hx hm
  have h2 : x % 2 ^ (32 - m) < 2 ^ (32 - m) := Nat.mod_lt _ (Nat.two_pow_pos _)
  have h3 : 2 ^ m * (x % 2 ^ (32 - m) + 1) ≤ 2 ^ m * 2 ^ (32 - m) := Nat.mul_le_mul_left _ h2
  rw [← Nat.pow_add, show m + (32 - m) = 32 by omega, Nat.mul_add] at h3
  unfold turnN
  omega

theorem turn_or {x m : Nat} (hx : x < 4294967296) (hm : m < 32) : (x * 2 ^ m % 4294967296 ||| x / 2 ^ (32 - m)) = turnN x m := by
  have e : x * 2 ^ m % 4294967296 = 2 ^ m * (x % 2 ^ (32 - m)) := by
    rw [show (4294967296 : Nat) = 2 ^ m * 2 ^ (32 - m) by rw [← Nat.pow_add, show m + (32 - m) = 32 by omega], Nat.mul_comm x, Nat.mul_mod_mul_left]
  rw [e, turnN, Nat.two_pow_add_eq_or_of_lt (turn_hi hx hm)]

theorem turn_or' {x m : Nat} (hx : x < 4294967296) (hm : m < 32) : (x * 2 ^ m ||| x / 2 ^ (32 - m)) % 4294967296 = turnN x m := by
  rw [← turn_or hx hm]
  show (_ ||| _) % 2 ^ 32 = (_ % 2 ^ 32 ||| _)
  rw [Nat.or_mod_two_pow]
  congr 1
  exact Nat.mod_eq_of_lt (Nat.lt_of_le_of_lt (Nat.div_le_self _ _) hx)

theorem bv64_nat {a : Nat} (h : a < 18446744073709551616) : (BitVec.ofInt 64 (a : Int)).toNat = a := by rw [BitVec.toNat_ofInt]; omega
theorem bv32_nat {a : Nat} (h : a < 4294967296) : (BitVec.ofInt 32 (a : Int)).toNat = a := by rw [BitVec.toNat_ofInt]; omega

theorem i64_or (a b : Nat) (h1 : a < 9223372036854775808) (h2 : b < 9223372036854775808) : bits .or .i64 (a : Int) (b : Int) = ((a ||| b : Nat) : Int) := by
  have hlt : (a ||| b) < 2 ^ 63 := Nat.or_lt_two_pow h1 h2
  have : (BitVec.ofInt 64 (a : Int) ||| BitVec.ofInt 64 (b : Int)).toNat = (a ||| b) := by rw [BitVec.toNat_or, bv64_nat (by omega), bv64_nat (by omega)]
  show IntKind.i64.wrap ((BitVec.ofInt 64 (a : Int) ||| BitVec.ofInt 64 (b : Int)).toNat : Int) = _
  rw [this, IntKind.wrap_i64]
  omega

theorem u32_or (a b : Nat) (h1 : a < 4294967296) (h2 : b < 4294967296) : bits .or .u32 (a : Int) (b : Int) = ((a ||| b : Nat) : Int) := by
  have hlt : (a ||| b) < 2 ^ 32 := Nat.or_lt_two_pow h1 h2
  have : (BitVec.ofInt 32 (a : Int) ||| BitVec.ofInt 32 (b : Int)).toNat = (a ||| b) := by rw [BitVec.toNat_or, bv32_nat h1, bv32_nat h2]
  show IntKind.u32.wrap ((BitVec.ofInt 32 (a : Int) ||| BitVec.ofInt 32 (b : Int)).toNat : Int) = _
  rw [this, IntKind.wrap_u32]
  omega

theorem turn_u32 {x m : Nat} (hx : x < 4294967296) (hm : m < 32) : bits .or .u32 ((x : Int) * 2 ^ m % 4294967296) ((x : Int) / 2 ^ (32 - m)) = ((turnN x m : Nat) : Int) := by
  have e1 : (x : Int) * 2 ^ m % 4294967296 = ((x * 2 ^ m % 4294967296 : Nat) : Int) := by simp
  have e2 : (x : Int) / 2 ^ (32 - m) = ((x / 2 ^ (32 - m) : Nat) : Int) := by simp
  rw [e1, e2, u32_or _ _ (Nat.mod_lt _ (by decide)) (Nat.lt_of_le_of_lt (Nat.div_le_self _ _) hx), turn_or hx hm]

theorem turn_i64 {x m : Nat} (hx : x < 4294967296) (hm : m < 32) : bits .or .i64 ((x : Int) * 2 ^ m) ((x : Int) / 2 ^ (32 - m)) % 4294967296 = ((turnN x m : Nat) : Int) := by
  have e1 : (x : Int) * 2 ^ m = ((x * 2 ^ m : Nat) : Int) := by simp
  have e2 : (x : Int) / 2 ^ (32 - m) = ((x / 2 ^ (32 - m) : Nat) : Int) := by simp
  have hb : x * 2 ^ m < 9223372036854775808 := by
    have h1 : 2 ^ m ≤ 2 ^ 31 := Nat.pow_le_pow_right (by decide) (by omega)
    have h2 : x * 2 ^ m ≤ 4294967295 * 2 ^ 31 := Nat.mul_le_mul (by omega) h1
    omega
  have hd : x / 2 ^ (32 - m) ≤ x := Nat.div_le_self _ _
  have e3 := turn_or' hx hm
  rw [e1, e2, i64_or _ _ hb (by omega)]
  generalize (x * 2 ^ m ||| x / 2 ^ (32 - m)) = q at e3 ⊢
  omega

theorem shl_small {x m : Nat} (hx : x < 4294967296) (hm : m < 32) : 0 ≤ (x : Int) * 2 ^ m ∧ (x : Int) * 2 ^ m ≤ 9223372036854775807 := by
  have e1 : (x : Int) * 2 ^ m = ((x * 2 ^ m : Nat) : Int) := by simp
  have h1 : 2 ^ m ≤ 2 ^ 31 := Nat.pow_le_pow_right (by decide) (by omega)
  have h2 : x * 2 ^ m ≤ 4294967295 * 2 ^ 31 := Nat.mul_le_mul (by omega) h1
  omega

def wordN (n : Int) : Nat := (n % 4294967296).toNat
theorem wordN_lt (n : Int) : wordN n < 4294967296 := by unfold wordN; omega
theorem wordN_eq (n : Int) : ((wordN n : Nat) : Int) = n % 4294967296 := by unfold wordN; omega
def countN (k : Int) : Nat := (k % 32).toNat
theorem countN_lt (k : Int) : countN k < 32 := by unfold countN; omega
theorem countN_eq (k : Int) : ((countN k : Nat) : Int) = k % 32 := by unfold countN; omega
def turnI (n k : Int) : Int := ((turnN (wordN n) (countN k) : Nat) : Int)

end Go.Proofs.YthjapmdikbmmkaaDoor

namespace Go.Proofs.YthjapmdikbmmkaaDoor
open Go.RowKit
set_option maxRecDepth 100000

def IntsIn (w : World) (p : Option Addr) (n : Nat) (xs : List Int) : Prop :=
  0 < n → ∃ b o, p = some ⟨b, o, none⟩ ∧ ∀ i, i < n → w.cell? ⟨b, o + i, none⟩ = some (.int .i64 (xs.getD i 0))

theorem owns_inI {w : World} {base e : Nat} {p : Option Addr} {n c : Nat} {xs : List Int} (h : w.ownsRow base e 1 (.slice p n c) n (xs.map (Value.int .i64))) : IntsIn w p n xs := by
  intro hn
  rcases h.2 with ⟨_, h0⟩ | ⟨g, cap, cur, hv, _, _⟩
  · omega
  · simp only [Value.slice.injEq] at hv
    obtain ⟨rfl, _, rfl⟩ := hv
    refine ⟨g, 0, rfl, fun i hi => ?_⟩
    have hl := h.1
    simp only [List.length_map, Nat.mul_one] at hl
    have := h.cellAt i (by omega)
    simp only [Nat.zero_add]
    rw [this]
    simp [List.getElem?_eq_getElem (show i < xs.length by omega), List.getD]

theorem in_belowI {w w' : World} {p : Option Addr} {n : Nat} {xs : List Int} (h : IntsIn w p n xs) (hb : Below w.heap.size w w') : IntsIn w' p n xs := by
  intro hn
  obtain ⟨b, o, rfl, hc⟩ := h hn
  refine ⟨b, o, rfl, fun i hi => ?_⟩
  have hlt : b < w.heap.size := World.block_lt_of_cell? w ⟨b, o + i, none⟩ (hc i hi)
  rw [hb.cell (p := ⟨b, o + i, none⟩) hlt]
  exact hc i hi

theorem owns_lenI {w : World} {base e : Nat} {v : Value} {n : Nat} {xs : List Int} (h : w.ownsRow base e 1 v n (xs.map (Value.int .i64))) : xs.length = n := by
  have := h.1; simpa using this

theorem fill_stepI (xs : List Int) (n k : Nat) (u : Int) (hu : u = xs.getD k 0) (hk : k < n) (hx : xs.length = n) :
    ((xs.take k ++ List.replicate (n - k) 0).map (Value.int .i64)).set k (.int .i64 u) = (xs.take (k + 1) ++ List.replicate (n - (k + 1)) 0).map (Value.int .i64) := by
  subst hu
  simp only [List.getD_eq_getElem?_getD]
  apply List.ext_getElem
  · simp; omega
  · intro i h1 h2
    simp only [List.getElem_set, List.getElem_map]
    simp at h1 h2
    by_cases e : k = i
    · subst e
      simp [List.getElem_append, hx, hk]
      intro h; omega
    · simp only [e, if_false]
      by_cases hi : i < k
      · simp [List.getElem_append, hx]
        rw [dif_pos (by omega), dif_pos (by omega)]
      · simp [List.getElem_append, hx]
        rw [dif_neg (by omega), dif_neg (by omega)]

theorem fill_oldI (xs : List Int) (n k : Nat) (hk : k < n) (hx : xs.length = n) : ((xs.take k ++ List.replicate (n - k) 0).map (Value.int .i64))[k]? = some (.int .i64 0) := by
  rw [List.getElem?_eq_getElem (by simp; omega)]
  simp [List.getElem_append, hx]
  intro h; omega

theorem fill_startI (xs : List Int) (n : Nat) : (madeCells #[Value.int .i64 0] n).toList = (xs.take 0 ++ List.replicate (n - 0) 0).map (Value.int .i64) := by
  rw [toList_madeCells_one]
  simp

def marksI (k : Int) (n : Nat) : List Int := (List.range n).map fun (i : Nat) => (k + (i : Int))

def OwnI (e : Nat) (w : World) (lo hi : Nat) (v : Value) (n : Nat) (xs : List Int) : Prop := w.ownsRow lo e 1 v n (xs.map (Value.int .i64)) ∧ ∀ k, v.ownBlock = some k → k < hi

section
variable {e : Nat} {w w' a : World} {lo hi lo' hi' : Nat} {u v : Value} {n m : Nat} {xs ys : List Int}

theorem OwnI.of (h : w.ownsRow lo e 1 v n (xs.map (Value.int .i64))) : OwnI e w lo w.heap.size v n xs := ⟨h, fun k hk => (h.lt k hk).2⟩
theorem OwnI.on (h : OwnI e w lo hi v n xs) (hb : Below w.heap.size w w') : OwnI e w' lo hi v n xs := ⟨owns_below h.1 hb, h.2⟩
theorem OwnI.far (h : OwnI e w lo hi v n xs) (hg : w.grownBy w' u.ownBlock) (hu : OwnI e w lo' hi' u m ys) (hd : hi ≤ lo' ∨ hi' ≤ lo) : OwnI e w' lo hi v n xs := by
  refine ⟨h.1.kept hg ?_, h.2⟩
  rcases hv : v.ownBlock with _ | k
  · exact .inl rfl
  · right
    intro he
    have h1 := h.2 k hv
    have h2 := (h.1.lt k hv).1
    have h3 := hu.2 k he.symm
    have h4 := (hu.1.lt k he.symm).1
    omega
theorem OwnI.len (h : OwnI e w lo hi v n xs) : xs.length = n := owns_lenI h.1
theorem OwnI.ints {p : Option Addr} {c : Nat} (h : OwnI e w lo hi (.slice p n c) n xs) : IntsIn w p n xs := owns_inI h.1
end

section
variable {P : Program} {e : TypeId} {i : TypeInfo} {base n : Nat} {wr : World} {v : Value} {xs : List Int}

theorem pushs_fitI {n m : Nat} (hn : n ≤ 1099511627776) (hm : m ≤ 1099511627776) : n + m ≤ maxLen ∧ (n + m) * 8 ≤ 140737488355328 := by unfold maxLen; omega

theorem step_pushsI {ops : Array Oper} {o : Oper} {a : Act} {K : Act → World → Prop} {Q : Exit → Act → World → Prop} {E : Prop} (hi : P.info? e = some i) (hz : i.zero = some (.int .i64 0)) (hsize : i.size = 1) (hby : i.bytes = 8)
    (s y : Operand) (t : TypeId) (ht : P.underlying t = some (.slice e)) (cs : Array Value) (ys : List Int) (hcs : cs.toList = ys.map (Value.int .i64)) (hm : 0 < ys.length) (hm' : ys.length ≤ 1099511627776)
    (hown : wr.ownsRow base e 1 v n (xs.map (Value.int .i64))) (hn : n ≤ 1099511627776) (hbase : base ≤ wr.heap.size)
    (hgd : o.guard = none) (ho : o.op = .call { callee := .builtin .append, args := #[s, y], argTypes := #[t, t] }) (hs : a.eval s = v) (hy : a.eval y = .slice (some ⟨wr.heap.size, 0, none⟩) ys.length ys.length)
    (h : ∀ g cap w', w'.ownsRow base e 1 (.slice (some ⟨g, 0, none⟩) (n + ys.length) cap) (n + ys.length) ((xs ++ ys).map (Value.int .i64)) → Below base wr w' → K (a.put o.dst (.slice (some ⟨g, 0, none⟩) (n + ys.length) cap)) w') :
    if Region.wanted o (yielded ops a.tmps) = true then Oper.wp P o a (wr.alloc (.cells cs e)).drew K Q else E := by
  refine step_append_lies _ hgd s y t ho base e i (.int .i64 0) 1 8 ht hi hz hsize hby rfl (by decide) v n (xs.map (Value.int .i64)) hs (hown.alloc _).drew ⟨wr.heap.size, 0, none⟩ ys.length ys.length (ys.map (Value.int .i64)) hy (by simp) ?_ (ints_oneCell _ _) hm (pushs_fitI hn hm').1 (pushs_fitI hn hm').2 (by simp; omega) _ rfl ?_
  · rw [← hcs]
    exact World.news_of_block (cs := cs) (heap_alloc_new wr _)
  · intro g cap w' h1 h2 _ _
    refine h g cap w' (by simpa using h1) (((Below.refl _ _).alloc hbase _).drew.grown h2 (by simp; omega) fun k hk => (hown.lt k hk).1)

theorem list_pushsI {ops : Array Oper} {rest : List Oper} {o : Oper} {a : Act} {Q : Exit → Act → World → Prop} (hi : P.info? e = some i) (hz : i.zero = some (.int .i64 0)) (hsize : i.size = 1) (hby : i.bytes = 8)
    (s y : Operand) (t : TypeId) (ht : P.underlying t = some (.slice e)) (cs : Array Value) (ys : List Int) (hcs : cs.toList = ys.map (Value.int .i64)) (hm : 0 < ys.length) (hm' : ys.length ≤ 1099511627776)
    (hown : wr.ownsRow base e 1 v n (xs.map (Value.int .i64))) (hn : n ≤ 1099511627776) (hbase : base ≤ wr.heap.size)
    (hgd : o.guard = none) (ho : o.op = .call { callee := .builtin .append, args := #[s, y], argTypes := #[t, t] }) (hs : a.eval s = v) (hy : a.eval y = .slice (some ⟨wr.heap.size, 0, none⟩) ys.length ys.length)
    (h : ∀ g cap w', w'.ownsRow base e 1 (.slice (some ⟨g, 0, none⟩) (n + ys.length) cap) (n + ys.length) ((xs ++ ys).map (Value.int .i64)) → Below base wr w' → wpList P ops Q rest (a.put o.dst (.slice (some ⟨g, 0, none⟩) (n + ys.length) cap)) w') :
    wpList P ops Q (o :: rest) a (wr.alloc (.cells cs e)) := by
  refine wpList_append_lies _ hgd s y t ho base e i (.int .i64 0) 1 8 ht hi hz hsize hby rfl (by decide) v n (xs.map (Value.int .i64)) hs (hown.alloc _) ⟨wr.heap.size, 0, none⟩ ys.length ys.length (ys.map (Value.int .i64)) hy (by simp) ?_ (ints_oneCell _ _) hm (pushs_fitI hn hm').1 (pushs_fitI hn hm').2 (by simp; omega) _ rfl ?_
  · rw [← hcs]
    exact World.news_of_block (cs := cs) (heap_alloc_new wr _)
  · intro g cap w' h1 h2 _ _
    refine h g cap w' (by simpa using h1) (((Below.refl _ _).alloc hbase _).grown h2 (by simp; omega) fun k hk => (hown.lt k hk).1)

theorem step_pushI {ops : Array Oper} {o : Oper} {a : Act} {K : Act → World → Prop} {Q : Exit → Act → World → Prop} {E : Prop} (hi : P.info? e = some i) (hz : i.zero = some (.int .i64 0)) (hsize : i.size = 1) (hby : i.bytes = 8)
    (s y : Operand) (t : TypeId) (ht : P.underlying t = some (.slice e)) (x : Int) (hown : wr.ownsRow base e 1 v n (xs.map (Value.int .i64))) (hn : n ≤ 1099511627776) (hbase : base ≤ wr.heap.size)
    (hgd : o.guard = none) (ho : o.op = .call { callee := .builtin .append, args := #[s, y], argTypes := #[t, t] }) (hs : a.eval s = v) (hy : a.eval y = .slice (some ⟨wr.heap.size, 0, none⟩) 1 1)
    (h : ∀ g cap w', w'.ownsRow base e 1 (.slice (some ⟨g, 0, none⟩) (n + 1) cap) (n + 1) ((xs ++ [x]).map (Value.int .i64)) → Below base wr w' → K (a.put o.dst (.slice (some ⟨g, 0, none⟩) (n + 1) cap)) w') :
    if Region.wanted o (yielded ops a.tmps) = true then Oper.wp P o a (wr.alloc (.cells #[.int .i64 x] e)).drew K Q else E :=
  step_pushsI hi hz hsize hby s y t ht #[.int .i64 x] [x] rfl (by simp) (by simp) hown hn hbase hgd ho hs hy h

theorem list_pushI {ops : Array Oper} {rest : List Oper} {o : Oper} {a : Act} {Q : Exit → Act → World → Prop} (hi : P.info? e = some i) (hz : i.zero = some (.int .i64 0)) (hsize : i.size = 1) (hby : i.bytes = 8)
    (s y : Operand) (t : TypeId) (ht : P.underlying t = some (.slice e)) (x : Int) (hown : wr.ownsRow base e 1 v n (xs.map (Value.int .i64))) (hn : n ≤ 1099511627776) (hbase : base ≤ wr.heap.size)
    (hgd : o.guard = none) (ho : o.op = .call { callee := .builtin .append, args := #[s, y], argTypes := #[t, t] }) (hs : a.eval s = v) (hy : a.eval y = .slice (some ⟨wr.heap.size, 0, none⟩) 1 1)
    (h : ∀ g cap w', w'.ownsRow base e 1 (.slice (some ⟨g, 0, none⟩) (n + 1) cap) (n + 1) ((xs ++ [x]).map (Value.int .i64)) → Below base wr w' → wpList P ops Q rest (a.put o.dst (.slice (some ⟨g, 0, none⟩) (n + 1) cap)) w') :
    wpList P ops Q (o :: rest) a (wr.alloc (.cells #[.int .i64 x] e)) :=
  list_pushsI hi hz hsize hby s y t ht #[.int .i64 x] [x] rfl (by simp) (by simp) hown hn hbase hgd ho hs hy h
end

section
variable {e e' : Nat} {w w' a : World} {lo hi lo' hi' : Nat} {u v : Value} {n m : Nat} {xs ys : List Int}
end

theorem Own.cap {e : Nat} {w : World} {lo hi : Nat} {p : Option Addr} {n c : Nat} {xs : List Int} (h : Own e w lo hi (.slice p n c) n xs) : n ≤ c := by
  rcases h.1.2 with ⟨hv, hn⟩ | ⟨g, cap, cur, hv, _, _, hc, _⟩
  · omega
  · simp only [Value.slice.injEq] at hv
    omega

section
variable {P : Program} {e : TypeId} {i : TypeInfo} {base n m c : Nat} {wr : World} {v : Value} {p : Option Addr} {xs ys : List Int}
theorem news_of_in {wr : World} {b o m : Nat} {ys : List Int} (hl : ys.length = m) (hc : ∀ i, i < m → wr.cell? ⟨b, o + i, none⟩ = some (.int .u8 (ys.getD i 0))) : ∀ j u, (ys.map (Value.int .u8))[j]? = some u → wr.cell? ((⟨b, o, none⟩ : Addr).add j) = some u := by
  intro j u hj
  have hjl : j < ys.length := by
    rcases Nat.lt_or_ge j ys.length with h | h
    · exact h
    · simp [List.getElem?_eq_none (show (ys.map (Value.int .u8)).length ≤ j by simpa using h)] at hj
  have hplain : (⟨b, o, none⟩ : Addr).add j = ⟨b, o + j, none⟩ := by unfold Addr.add; split <;> simp_all
  rw [hplain, hc j (by omega)]
  simpa [List.getD, List.getElem?_eq_getElem hjl] using hj

theorem list_spread {ops : Array Oper} {rest : List Oper} {o : Oper} {a : Act} {Q : Exit → Act → World → Prop} (hi : P.info? e = some i) (hz : i.zero = some (.int .u8 0)) (hsize : i.size = 1) (hby : i.bytes = 1)
    (s y : Operand) (t : TypeId) (ht : P.underlying t = some (.slice e)) (hown : wr.ownsRow base e 1 v n (xs.map (Value.int .u8))) (hin : BytesIn wr p m ys) (hl : ys.length = m) (hm : 0 < m) (hm' : m ≤ 1099511627776)
    (hn : n ≤ 1099511627776) (hbase : base ≤ wr.heap.size)
    (hgd : o.guard = none) (ho : o.op = .call { callee := .builtin .append, args := #[s, y], argTypes := #[t, t] }) (hs : a.eval s = v) (hy : a.eval y = .slice p m c)
    (h : ∀ g cap w', w'.ownsRow base e 1 (.slice (some ⟨g, 0, none⟩) (n + m) cap) (n + m) ((xs ++ ys).map (Value.int .u8)) → wr.grownBy w' v.ownBlock → Below base wr w' → wpList P ops Q rest (a.put o.dst (.slice (some ⟨g, 0, none⟩) (n + m) cap)) w') :
    wpList P ops Q (o :: rest) a wr := by
  obtain ⟨b, of, rfl, hc⟩ := hin hm
  refine wpList_append_lies _ hgd s y t ho base e i (.int .u8 0) 1 1 ht hi hz hsize hby rfl (by decide) v n (xs.map (Value.int .u8)) hs hown ⟨b, of, none⟩ m c (ys.map (Value.int .u8)) hy (by simp [hl]) (news_of_in hl hc) (ints_oneCell _ _) hm (pushs_fit hn hm').1 (pushs_fit hn hm').2 hbase _ rfl ?_
  intro g cap w' h1 h2 _ _
  exact h g cap w' (by simpa using h1) h2 ((Below.refl _ _).grown h2 hbase fun k hk => (hown.lt k hk).1)

end

end Go.Proofs.YthjapmdikbmmkaaDoor

namespace Go.Proofs.YthjapmdikbmmkaaDoor
open Go.RowKit
set_option maxRecDepth 100000

theorem infoInt : (Tryd.prog.info? 3).map (fun i => (i.zero, i.size, i.bytes)) = some (some (.int .i64 0), 1, 8) := by kernel_rfl

end Go.Proofs.YthjapmdikbmmkaaDoor

namespace Go.Proofs.YthjapmdikbmmkaaDoor
open Go.RowKit
set_option maxRecDepth 100000

def quarterN (a b c d : Nat) : Nat × Nat × Nat × Nat :=
  let a1 := (a + b) % 4294967296
  let d1 := turnN (d ^^^ a1) 16
  let c1 := (c + d1) % 4294967296
  let b1 := turnN (b ^^^ c1) 12
  let a2 := (a1 + b1) % 4294967296
  let d2 := turnN (d1 ^^^ a2) 8
  let c2 := (c1 + d2) % 4294967296
  let b2 := turnN (b1 ^^^ c2) 7
  (a2, b2, c2, d2)
def setQ (L : List Int) (a b c d : Nat) (u v x y : Int) : List Int := (((L.set a u).set b v).set c x).set d y
def quarterL (L : List Int) (a b c d : Nat) : List Int :=
  let q := quarterN (wordN (L.getD a 0)) (wordN (L.getD b 0)) (wordN (L.getD c 0)) (wordN (L.getD d 0))
  setQ L a b c d (q.1 : Int) (q.2.1 : Int) (q.2.2.1 : Int) (q.2.2.2 : Int)
theorem wordN_add (u v : Int) : (IntKind.i64.wrap (u + v)) % 4294967296 = (((wordN u + wordN v) % 4294967296 : Nat) : Int) := by
  rw [IntKind.wrap_i64]
  unfold wordN
  omega
theorem wordN_nat {a : Nat} (h : a < 4294967296) : wordN (a : Int) = a := by unfold wordN; omega
theorem wrap_mod (n : Nat) : wordN (IntKind.i64.wrap (n : Int)) = n % 4294967296 := by
  rw [IntKind.wrap_i64]
  unfold wordN
  omega
theorem ofInt_mod (u : Int) : (BitVec.ofInt 64 u).toNat % 4294967296 = wordN u := by
  have e : (BitVec.ofInt 64 u).toNat = (u % 18446744073709551616).toNat := BitVec.toNat_ofInt u
  rw [e]
  unfold wordN
  omega
theorem bits_xor_mod (u v : Int) : wordN (bits .xor .i64 u v) = wordN u ^^^ wordN v := by
  have e : bits .xor .i64 u v = IntKind.i64.wrap ((BitVec.ofInt 64 u ^^^ BitVec.ofInt 64 v).toNat : Int) := rfl
  rw [e, wrap_mod, BitVec.toNat_xor, ← ofInt_mod u, ← ofInt_mod v]
  exact Nat.xor_mod_two_pow (n := 32)
theorem turn_xor (u v : Int) (k : Int) : turnI (bits .xor .i64 u v) k = ((turnN (wordN u ^^^ wordN v) (countN k) : Nat) : Int) := by unfold turnI; rw [bits_xor_mod]
section
variable {L : List Int} {a b c d : Nat} {u v x y z : Int}
theorem setQ_length : (setQ L a b c d u v x y).length = L.length := by simp [setQ]
theorem setQ_self (ha : a < L.length) (hb : b < L.length) (hc : c < L.length) (hd : d < L.length) : setQ L a b c d (L.getD a 0) (L.getD b 0) (L.getD c 0) (L.getD d 0) = L := by
  have e : ∀ k, k < L.length → L.set k (L.getD k 0) = L := fun k hk => by
    rw [List.getD_eq_getElem?_getD, List.getElem?_eq_getElem hk]
    exact List.set_getElem_self hk
  unfold setQ
  rw [e a ha, e b hb, e c hc, e d hd]
theorem setQ_a (h1 : a ≠ b) (h2 : a ≠ c) (h3 : a ≠ d) : (setQ L a b c d u v x y).set a z = setQ L a b c d z v x y := by
  unfold setQ
  rw [List.set_comm _ _ h3.symm, List.set_comm _ _ h2.symm, List.set_comm _ _ h1.symm, List.set_set]
theorem setQ_b (h1 : b ≠ c) (h2 : b ≠ d) : (setQ L a b c d u v x y).set b z = setQ L a b c d u z x y := by
  unfold setQ
  rw [List.set_comm _ _ h2.symm, List.set_comm _ _ h1.symm, List.set_set]
theorem setQ_c (h1 : c ≠ d) : (setQ L a b c d u v x y).set c z = setQ L a b c d u v z y := by
  unfold setQ
  rw [List.set_comm _ _ h1.symm, List.set_set]
theorem setQ_d : (setQ L a b c d u v x y).set d z = setQ L a b c d u v x z := by
  unfold setQ
  rw [List.set_set]
theorem getQ_a (ha : a < L.length) (h1 : a ≠ b) (h2 : a ≠ c) (h3 : a ≠ d) : (setQ L a b c d u v x y)[a]? = some u := by
  unfold setQ
  rw [List.getElem?_set_ne h3.symm, List.getElem?_set_ne h2.symm, List.getElem?_set_ne h1.symm, List.getElem?_set_self ha]
theorem getQ_b (hb : b < L.length) (h1 : b ≠ c) (h2 : b ≠ d) : (setQ L a b c d u v x y)[b]? = some v := by
  unfold setQ
  rw [List.getElem?_set_ne h2.symm, List.getElem?_set_ne h1.symm, List.getElem?_set_self (by simpa using hb)]
theorem getQ_c (hc : c < L.length) (h1 : c ≠ d) : (setQ L a b c d u v x y)[c]? = some x := by
  unfold setQ
  rw [List.getElem?_set_ne h1.symm, List.getElem?_set_self (by simpa using hc)]
theorem getQ_d (hd : d < L.length) : (setQ L a b c d u v x y)[d]? = some y := by
  unfold setQ
  rw [List.getElem?_set_self (by simpa using hd)]
end

section
variable {P : Program} {e : TypeId} {i : TypeInfo} {base n m c : Nat} {wr : World} {v : Value} {p : Option Addr} {xs ys : List Int}
theorem news_of_inI {wr : World} {b o m : Nat} {ys : List Int} (hl : ys.length = m) (hc : ∀ i, i < m → wr.cell? ⟨b, o + i, none⟩ = some (.int .i64 (ys.getD i 0))) : ∀ j u, (ys.map (Value.int .i64))[j]? = some u → wr.cell? ((⟨b, o, none⟩ : Addr).add j) = some u := by
  intro j u hj
  have hjl : j < ys.length := by have := (List.getElem?_eq_some_iff.1 hj).1; simpa using this
  have hplain : (⟨b, o, none⟩ : Addr).add j = ⟨b, o + j, none⟩ := by unfold Addr.add; split <;> simp_all
  rw [hplain, hc j (by omega)]
  simpa [List.getD, List.getElem?_eq_getElem hjl] using hj
theorem list_spreadI {ops : Array Oper} {rest : List Oper} {o : Oper} {a : Act} {Q : Exit → Act → World → Prop} (hi : P.info? e = some i) (hz : i.zero = some (.int .i64 0)) (hsize : i.size = 1) (hby : i.bytes = 8)
    (s y : Operand) (t : TypeId) (ht : P.underlying t = some (.slice e)) (hown : wr.ownsRow base e 1 v n (xs.map (Value.int .i64))) (hin : IntsIn wr p m ys) (hl : ys.length = m) (hm : 0 < m) (hm' : m ≤ 1099511627776)
    (hn : n ≤ 1099511627776) (hbase : base ≤ wr.heap.size)
    (hgd : o.guard = none) (ho : o.op = .call { callee := .builtin .append, args := #[s, y], argTypes := #[t, t] }) (hs : a.eval s = v) (hy : a.eval y = .slice p m c)
    (h : ∀ g cap w', w'.ownsRow base e 1 (.slice (some ⟨g, 0, none⟩) (n + m) cap) (n + m) ((xs ++ ys).map (Value.int .i64)) → Below base wr w' → wpList P ops Q rest (a.put o.dst (.slice (some ⟨g, 0, none⟩) (n + m) cap)) w') :
    wpList P ops Q (o :: rest) a wr := by
  obtain ⟨b, of, rfl, hc⟩ := hin hm
  refine wpList_append_lies _ hgd s y t ho base e i (.int .i64 0) 1 8 ht hi hz hsize hby rfl (by decide) v n (xs.map (Value.int .i64)) hs hown ⟨b, of, none⟩ m c (ys.map (Value.int .i64)) hy (by simp [hl]) (news_of_inI hl hc) (ints_oneCell _ _) hm (pushs_fitI hn hm').1 (pushs_fitI hn hm').2 hbase _ rfl ?_
  intro g cap w' h1 h2 _ _
  exact h g cap w' (by simpa using h1) ((Below.refl _ _).grown h2 hbase fun k hk => (hown.lt k hk).1)
end

end Go.Proofs.YthjapmdikbmmkaaDoor

namespace Go.Proofs.YthjapmdikbmmkaaDoor
open Go.RowKit
set_option maxRecDepth 100000

theorem specWord_same (n : Int) (w : World) :
    Calls Tryd.prog 69 #[.int .i64 n] w fun e w' => e = .returned (.int .i64 (n % 4294967296)) ∧ w' = w := by
  have hm := i64_mask32 n
  go_enter Tryd.func69, Tryd.ntmps69
  go_wp2
  go_ret
  exact ⟨rfl, rfl⟩

theorem implWord_same (n : Int) (w : World) :
    Calls Tryd.prog 87 #[.int .i64 n] w fun e w' => e = .returned (.int .i64 (n % 4294967296)) ∧ w' = w := by
  go_enter Tryd.func87, Tryd.ntmps87
  go_wp2
  go_ret
  exact ⟨rfl, rfl⟩

theorem specWord_any (n : Int) (w : World) :
    Calls Tryd.prog 69 #[.int .i64 n] w fun e w' => e = .returned (.int .i64 (n % 4294967296)) ∧ Below w.heap.size w w' :=
  (specWord_same n w).mono fun _ _ ⟨h1, h2⟩ => ⟨h1, by rw [h2]; exact Below.refl _ _⟩

end Go.Proofs.YthjapmdikbmmkaaDoor

namespace Go.Proofs.YthjapmdikbmmkaaDoor
open Go.RowKit
set_option maxRecDepth 100000

theorem rotate_same (x : Nat) (k : Int) (w : World) (hx : x < 4294967296) :
    Calls Tryd.prog 89 #[.int .u32 x, .int .i64 k] w fun e w' => e = .returned (.int .u32 ((turnN x (countN k) : Nat) : Int)) ∧ w' = w := by
  have hm := (u64_mask31 k).trans (countN_eq k).symm
  have hlt := countN_lt k
  generalize countN k = m at hm hlt ⊢
  have ho := turn_u32 hx hlt
  go_enter Tryd.func89, Tryd.ntmps89
  go_wp2
  go_ret
  exact ⟨rfl, rfl⟩

theorem turned_same (x : Nat) (k : Int) (w : World) (hx : x < 4294967296) :
    Calls Tryd.prog 85 #[.int .u32 x, .int .i64 k] w fun e w' => e = .returned (.int .u32 ((turnN x (countN k) : Nat) : Int)) ∧ w' = w := by
  have hr := turn_lt hx (countN_lt k)
  have hc := fun w => rotate_same x k w hx
  generalize turnN x (countN k) = r at hr hc ⊢
  go_enter Tryd.func85, Tryd.ntmps85
  go_wp2_with (fail)
  refine (hc _).mono ?_
  rintro e w1 ⟨rfl, rfl⟩
  go_wp2
  go_ret
  exact ⟨rfl, rfl⟩

theorem specTurn_any (n k : Int) (w : World) :
    Calls Tryd.prog 88 #[.int .i64 n, .int .i64 k] w fun e w' => e = .returned (.int .i64 (turnI n k)) ∧ Below w.heap.size w w' := by
  have hx := wordN_lt n
  have he := wordN_eq n
  have hm := (i64_mask31 k).trans (countN_eq k).symm
  have hlt := countN_lt k
  unfold turnI
  generalize wordN n = x at hx he ⊢
  generalize countN k = m at hm hlt ⊢
  have ho := turn_i64 hx hlt
  have hs := shl_small hx hlt
  generalize turnN x m = r at ho ⊢
  go_enter Tryd.func88, Tryd.ntmps88
  go_wp2_with (fail)
  refine (specWord_same n _).mono ?_
  rintro e w1 ⟨rfl, rfl⟩
  rw [← he]
  clear he
  go_wp2_with (fail)
  go_quiet ((go_at_call 69; exact Calls.quiet_of_same (specWord_same _ _)))
  go_wp2
  go_ret
  rw [ho]
  exact ⟨rfl, below_drewN (Below.refl _ _) _⟩

end Go.Proofs.YthjapmdikbmmkaaDoor
