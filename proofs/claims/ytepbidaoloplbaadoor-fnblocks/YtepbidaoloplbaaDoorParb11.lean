/-
  A program in which Stream is told otherwise: the stand-in's body, and that of a function that looks at its arguments.
  Two programs with the same tables: what is asked of types is answered alike.
  The program in which Stream is told otherwise, with two functions more.
  The byte's row of the program's table of types.
  What spec.Word and impl.Word answer at every int: what is left by 2^32; no condition.
  What bits.RotateLeft32, spec.Turn and impl.Turn answer at every two ints: the word turned left by what is left of k by 32; no condition.
-/
import Derived.Test.YtepbidaoloplbaaDoorParb10
import Derived.WalkKit
import Derived.KernelRfl
import Derived.Test.YtepbidaoloplbaaDoorParb08
import Derived.Deep.QuietTactic
import Derived.BigQuiet
import Derived.Test.YtepbidaoloplbaaDoorParb09
namespace Go.Proofs.YtepbidaoloplbaaDoor
open Go Go.RowKit

def chk3B : Code := (.seq (.region 0 #[{ dst := some 4, op := .assign (.const (.bool false)), type := 4, pos := "", after := #[], guard := none }] false) (.seq (.region 1 #[{ dst := some 8, op := .call { callee := .builtin .len, args := #[.tmp 0], argTypes := #[22] }, type := 3, pos := "", after := #[], guard := none }, { dst := some 9, op := .call { callee := .builtin .cap, args := #[.tmp 0], argTypes := #[22] }, type := 3, pos := "", after := #[], guard := none }, { dst := some 10, op := .binOp .leq 3 (.tmp 8) (.tmp 9) 3, type := 4, pos := "", after := #[], guard := none }, { dst := some 11, op := .binOp .leq 3 (.tmp 8) (.const (.int .i64 9223372036854775807)) 3, type := 4, pos := "", after := #[], guard := none }, { dst := some 12, op := .call { callee := .builtin .len, args := #[.tmp 2], argTypes := #[22] }, type := 3, pos := "", after := #[], guard := none }, { dst := some 13, op := .call { callee := .builtin .cap, args := #[.tmp 2], argTypes := #[22] }, type := 3, pos := "", after := #[], guard := none }, { dst := some 14, op := .binOp .leq 3 (.tmp 12) (.tmp 13) 3, type := 4, pos := "", after := #[], guard := none }, { dst := some 15, op := .binOp .leq 3 (.tmp 12) (.const (.int .i64 9223372036854775807)) 3, type := 4, pos := "", after := #[], guard := none }, { dst := some 16, op := .call { callee := .builtin .len, args := #[.tmp 3], argTypes := #[22] }, type := 3, pos := "", after := #[], guard := none }, { dst := some 17, op := .call { callee := .builtin .cap, args := #[.tmp 3], argTypes := #[22] }, type := 3, pos := "", after := #[], guard := none }, { dst := some 18, op := .binOp .leq 3 (.tmp 16) (.tmp 17) 3, type := 4, pos := "", after := #[], guard := none }, { dst := some 19, op := .binOp .leq 3 (.tmp 16) (.const (.int .i64 9223372036854775807)) 3, type := 4, pos := "", after := #[], guard := none }, { dst := some 20, op := .binOp .leq 3 (.tmp 1) (.const (.int .i64 9223372036854775807)) 3, type := 4, pos := "", after := #[], guard := none }] false) (.seq (.cond (.tmp 10) .skip .ret) (.seq (.cond (.tmp 11) .skip .ret) (.seq (.cond (.tmp 14) .skip .ret) (.seq (.cond (.tmp 15) .skip .ret) (.seq (.cond (.tmp 18) .skip .ret) (.seq (.cond (.tmp 19) .skip .ret) (.seq (.cond (.tmp 20) .skip .ret) (.seq (.region 2 #[{ dst := some 5, op := .call { callee := .value (.func 82), args := #[.tmp 0], argTypes := #[22] }, type := 4, pos := "", after := #[], guard := none }, { dst := some 6, op := .call { callee := .value (.func 82), args := #[.tmp 2], argTypes := #[22] }, type := 4, pos := "", after := #[], guard := none }, { dst := some 7, op := .call { callee := .value (.func 82), args := #[.tmp 3], argTypes := #[22] }, type := 4, pos := "", after := #[], guard := none }] false) (.seq (.cond (.tmp 5) .skip .ret) (.seq (.cond (.tmp 6) .skip .ret) (.seq (.cond (.tmp 7) .skip .ret) (.seq (.region 3 #[{ dst := some 4, op := .assign (.const (.bool true)), type := 4, pos := "", after := #[], guard := none }] false) .ret))))))))))))))
def chk3F : Func := { name := "chk3", origin := "", params := #[22, 3, 22, 22], resultTypes := #[4], nfree := 0, ntmps := 21, results := #[.tmp 4], norace := false, body := some chk3B, tmpNames := #[] }
/-- The operations at the stand-in's head. -/
def strR1 : Array Oper := #[{ dst := some 5, op := .call { callee := .builtin .cap, args := #[.tmp 0], argTypes := #[22] }, type := 3, pos := "", after := #[], guard := none }, { dst := some 6, op := .call { callee := .builtin .cap, args := #[.tmp 2], argTypes := #[22] }, type := 3, pos := "", after := #[], guard := none }, { dst := some 7, op := .call { callee := .builtin .cap, args := #[.tmp 3], argTypes := #[22] }, type := 3, pos := "", after := #[], guard := none }, { dst := some 8, op := .convert 22 9 (.tmp 0), type := 9, pos := "", after := #[], guard := none }, { dst := some 9, op := .convert 22 9 (.tmp 2), type := 9, pos := "", after := #[], guard := none }, { dst := some 10, op := .convert 22 9 (.tmp 3), type := 9, pos := "", after := #[], guard := none }, { dst := some 11, op := .binOp .mul 3 (.tmp 1) (.const (.int .i64 1)) 3, type := 3, pos := "", after := #[], guard := none }, { dst := some 12, op := .call { callee := .value (.func 83), args := #[.tmp 0, .tmp 1, .tmp 2, .tmp 3], argTypes := #[22, 3, 22, 22] }, type := 4, pos := "", after := #[], guard := none }]
def strDie : Array Oper := #[{ dst := none, op := .panic (.const (.bool true)), type := 0, pos := "", after := #[], guard := none }]
def strB : Code := (.seq (.region 0 #[{ dst := some 4, op := .assign (.const (.slice none 0 0)), type := 22, pos := "", after := #[], guard := none }] false) (.seq (.region 1 #[{ dst := some 5, op := .call { callee := .builtin .cap, args := #[.tmp 0], argTypes := #[22] }, type := 3, pos := "", after := #[], guard := none }, { dst := some 6, op := .call { callee := .builtin .cap, args := #[.tmp 2], argTypes := #[22] }, type := 3, pos := "", after := #[], guard := none }, { dst := some 7, op := .call { callee := .builtin .cap, args := #[.tmp 3], argTypes := #[22] }, type := 3, pos := "", after := #[], guard := none }, { dst := some 8, op := .convert 22 9 (.tmp 0), type := 9, pos := "", after := #[], guard := none }, { dst := some 9, op := .convert 22 9 (.tmp 2), type := 9, pos := "", after := #[], guard := none }, { dst := some 10, op := .convert 22 9 (.tmp 3), type := 9, pos := "", after := #[], guard := none }, { dst := some 11, op := .binOp .mul 3 (.tmp 1) (.const (.int .i64 1)) 3, type := 3, pos := "", after := #[], guard := none }, { dst := some 12, op := .call { callee := .value (.func 83), args := #[.tmp 0, .tmp 1, .tmp 2, .tmp 3], argTypes := #[22, 3, 22, 22] }, type := 4, pos := "", after := #[], guard := none }] false) (.seq (.cond (.tmp 12) .skip (.region 2 #[{ dst := none, op := .panic (.const (.bool true)), type := 0, pos := "", after := #[], guard := none }] false)) (.seq (.region 3 #[{ dst := some 13, op := .call { callee := .builtin .len, args := #[.tmp 0], argTypes := #[22] }, type := 3, pos := "", after := #[], guard := none }, { dst := some 14, op := .binOp .leq 3 (.tmp 13) (.const (.int .i64 32)) 3, type := 4, pos := "", after := #[], guard := none }, { dst := some 15, op := .binOp .leq 3 (.const (.int .i64 32)) (.tmp 13) 3, type := 4, pos := "", after := #[], guard := none }, { dst := some 16, op := .call { callee := .builtin .len, args := #[.tmp 2], argTypes := #[22] }, type := 3, pos := "", after := #[], guard := none }, { dst := some 17, op := .binOp .leq 3 (.tmp 16) (.const (.int .i64 12)) 3, type := 4, pos := "", after := #[], guard := none }, { dst := some 18, op := .binOp .leq 3 (.const (.int .i64 12)) (.tmp 16) 3, type := 4, pos := "", after := #[], guard := none }, { dst := some 19, op := .call { callee := .builtin .len, args := #[.tmp 3], argTypes := #[22] }, type := 3, pos := "", after := #[], guard := none }, { dst := some 20, op := .binOp .leq 3 (.tmp 19) (.const (.int .i64 4000)) 3, type := 4, pos := "", after := #[], guard := none }, { dst := some 21, op := .binOp .leq 3 (.const (.int .i64 0)) (.tmp 1) 3, type := 4, pos := "", after := #[], guard := none }] false) (.seq (.cond (.tmp 14) .skip .ret) (.seq (.cond (.tmp 15) .skip .ret) (.seq (.cond (.tmp 17) .skip .ret) (.seq (.cond (.tmp 18) .skip .ret) (.seq (.cond (.tmp 20) .skip .ret) (.seq (.cond (.tmp 21) .skip .ret) (.seq (.region 4 #[{ dst := some 22, op := .binOp .add 3 (.tmp 19) (.const (.int .i64 63)) 3, type := 3, pos := "", after := #[], guard := none }, { dst := some 23, op := .binOp .quo 3 (.tmp 22) (.const (.int .i64 64)) 3, type := 3, pos := "", after := #[], guard := none }, { dst := some 24, op := .binOp .sub 3 (.const (.int .i64 4294967296)) (.tmp 1) 3, type := 3, pos := "", after := #[], guard := none }, { dst := some 25, op := .binOp .leq 3 (.tmp 23) (.tmp 24) 3, type := 4, pos := "", after := #[], guard := none }] false) (.seq (.cond (.tmp 25) .skip .ret) (.seq (.region 5 #[{ dst := some 26, op := .call { callee := .value (.func 12), args := #[.tmp 0, .tmp 1, .tmp 2, .tmp 3], argTypes := #[22, 3, 22, 22] }, type := 22, pos := "", after := #[], guard := none }, { dst := some 27, op := .makeSlice 22 (.const (.int .i64 0)) (.tmp 19), type := 22, pos := "", after := #[], guard := none }, { dst := some 28, op := .call { callee := .builtin .append, args := #[.tmp 27, .tmp 26], argTypes := #[22, 22] }, type := 22, pos := "", after := #[], guard := none }, { dst := some 4, op := .assign (.tmp 28), type := 22, pos := "", after := #[], guard := none }] false) .ret)))))))))))))
def strF : Func := { name := "stream", origin := "", params := #[22, 3, 22, 22], resultTypes := #[22], nfree := 0, ntmps := 29, results := #[.tmp 4], norace := false, body := some strB, tmpNames := #[] }

end Go.Proofs.YtepbidaoloplbaaDoor

namespace Go.Proofs.YtepbidaoloplbaaDoor
open Go

section
variable {P Q : Program}
theorem info_kin (h : P.toTables = Q.toTables) (t : TypeId) : P.info? t = Q.info? t := by rw [h]
theorem underlying_kin (h : P.toTables = Q.toTables) (t : TypeId) : P.underlying t = Q.underlying t := by
  unfold Program.underlying
  simp only [info_kin h]
theorem runUnderlying_kin (h : P.toTables = Q.toTables) (t : TypeId) (w : World) : (underlying t).run P w = (underlying t).run Q w := by
  unfold underlying
  simp only [Sem.run_bind, run_program, Result.andThen_ok, underlying_kin h]
  cases Q.underlying t <;> rfl
theorem typeInfo_kin (h : P.toTables = Q.toTables) (t : TypeId) (w : World) : (typeInfo t).run P w = (typeInfo t).run Q w := by
  unfold typeInfo
  simp only [Sem.run_bind, run_program, Result.andThen_ok, info_kin h]
  cases Q.info? t <;> rfl
theorem sizeOf_kin (h : P.toTables = Q.toTables) (t : TypeId) (w : World) : (sizeOf t).run P w = (sizeOf t).run Q w := by
  unfold sizeOf
  simp only [Sem.run_bind, typeInfo_kin h, Sem.run_pure]
theorem halt_then {α β : Type} (y : Halt) (w : World) (f g : α → World → Result β) : (Result.halt y w).andThen f = (Result.halt y w).andThen g := by
  have h : ∀ k : α → World → Result β, (Result.halt y w).andThen k = .halt y w := fun _ => rfl
  rw [h, h]
theorem zeroValue_kin (h : P.toTables = Q.toTables) (t : TypeId) (w : World) : (zeroValue t).run P w = (zeroValue t).run Q w := by
  unfold zeroValue
  simp only [Sem.run_bind, typeInfo_kin h]
  cases (typeInfo t).run Q w with
  | ok i w1 => simp only [Result.andThen_ok]; cases i.zero <;> rfl
  | halt y w1 => exact halt_then ..
theorem isAgg_kin (h : P.toTables = Q.toTables) (t : TypeId) (w : World) : (isAgg t).run P w = (isAgg t).run Q w := by
  unfold isAgg
  simp only [Sem.run_bind, runUnderlying_kin h]
  cases (underlying t).run Q w with
  | ok d w1 => simp only [Result.andThen_ok]; cases d <;> rfl
  | halt y w1 => exact halt_then ..
theorem depth_kin (h : P.toTables = Q.toTables) : P.depth = Q.depth := by simp only [Program.depth, h]
theorem eqGuard_kin (h : P.toTables = Q.toTables) (n : Nat) (t : TypeId) : P.eqGuardType n t = Q.eqGuardType n t := by
  induction n generalizing t with
  | zero => rfl
  | succ n ih =>
    unfold Program.eqGuardType
    simp only [underlying_kin h, ih]
end

end Go.Proofs.YtepbidaoloplbaaDoor

namespace Go.Proofs
open Go

noncomputable def Altd.funcs : Array Func := #[Tryd.f0, Tryd.f1, Tryd.f2, Tryd.f3, Tryd.f4, Tryd.f5, Tryd.f6, Tryd.f7, YtepbidaoloplbaaDoor.strF, Tryd.f9, Tryd.f10, Tryd.f11, Tryd.f12, Tryd.f13, Tryd.f14, Tryd.f15, Tryd.f16, Tryd.f17, Tryd.f18, Tryd.f19, Tryd.f20, Tryd.f21, Tryd.f22, Tryd.f23, Tryd.f24, Tryd.f25, Tryd.f26, Tryd.f27, Tryd.f28, Tryd.f29, Tryd.f30, Tryd.f31, Tryd.f32, Tryd.f33, Tryd.f34, Tryd.f35, Tryd.f36, Tryd.f37, Tryd.f38, Tryd.f39, Tryd.f40, Tryd.f41, Tryd.f42, Tryd.f43, Tryd.f44, Tryd.f45, Tryd.f46, Tryd.f47, Tryd.f48, Tryd.f49, Tryd.f50, Tryd.f51, Tryd.f52, Tryd.f53, Tryd.f54, Tryd.f55, Tryd.f56, Tryd.f57, Tryd.f58, Tryd.f59, Tryd.f60, Tryd.f61, Tryd.f62, Tryd.f63, Tryd.f64, Tryd.f65, Tryd.f66, Tryd.f67, Tryd.f68, Tryd.f69, Tryd.f70, Tryd.f71, Tryd.f72, Tryd.f73, Tryd.f74, Tryd.f75, Tryd.f76, Tryd.f77, Tryd.f78, Tryd.f79, Tryd.f80, Tryd.f81, YtepbidaoloplbaaDoor.chkF, YtepbidaoloplbaaDoor.chk3F]
noncomputable def Altd.prog : Program := { toTables := Tryd.progTables, funcs := Altd.funcs }
@[simp] theorem Altd.tables : Altd.prog.toTables = Tryd.prog.toTables := rfl
@[simp] theorem Altd.underlyingG (t : TypeId) : Altd.prog.underlying t = Tryd.prog.underlying t := YtepbidaoloplbaaDoor.underlying_kin Altd.tables t
@[simp] theorem Altd.runUnderlyingG (t : TypeId) (w : World) : (underlying t).run Altd.prog w = (underlying t).run Tryd.prog w := YtepbidaoloplbaaDoor.runUnderlying_kin Altd.tables t w
@[simp] theorem Altd.typeInfoG (t : TypeId) (w : World) : (typeInfo t).run Altd.prog w = (typeInfo t).run Tryd.prog w := YtepbidaoloplbaaDoor.typeInfo_kin Altd.tables t w
@[simp] theorem Altd.sizeOfG (t : TypeId) (w : World) : (sizeOf t).run Altd.prog w = (sizeOf t).run Tryd.prog w := YtepbidaoloplbaaDoor.sizeOf_kin Altd.tables t w
@[simp] theorem Altd.zeroValueG (t : TypeId) (w : World) : (zeroValue t).run Altd.prog w = (zeroValue t).run Tryd.prog w := YtepbidaoloplbaaDoor.zeroValue_kin Altd.tables t w
@[simp] theorem Altd.isAggG (t : TypeId) (w : World) : (isAgg t).run Altd.prog w = (isAgg t).run Tryd.prog w := YtepbidaoloplbaaDoor.isAgg_kin Altd.tables t w
@[simp] theorem Altd.depthG : Altd.prog.depth = Tryd.prog.depth := YtepbidaoloplbaaDoor.depth_kin Altd.tables 
@[simp] theorem Altd.eqGuardG (n : Nat) (t : TypeId) : Altd.prog.eqGuardType n t = Tryd.prog.eqGuardType n t := YtepbidaoloplbaaDoor.eqGuard_kin Altd.tables n t
@[simp] theorem Altd.call3 (args : Array Value) (w : World) : (callFunc (3 : Nat) args).run Altd.prog w = .ok (.enter (3 : Nat) args) w := rfl
@[simp] theorem Altd.call4 (args : Array Value) (w : World) : (callFunc (4 : Nat) args).run Altd.prog w = .ok (.enter (4 : Nat) args) w := rfl
@[simp] theorem Altd.call5 (args : Array Value) (w : World) : (callFunc (5 : Nat) args).run Altd.prog w = .ok (.enter (5 : Nat) args) w := rfl
@[simp] theorem Altd.call6 (args : Array Value) (w : World) : (callFunc (6 : Nat) args).run Altd.prog w = .ok (.enter (6 : Nat) args) w := rfl
@[simp] theorem Altd.call7 (args : Array Value) (w : World) : (callFunc (7 : Nat) args).run Altd.prog w = .ok (.enter (7 : Nat) args) w := rfl
@[simp] theorem Altd.call8 (args : Array Value) (w : World) : (callFunc (8 : Nat) args).run Altd.prog w = .ok (.enter (8 : Nat) args) w := rfl
@[simp] theorem Altd.call9 (args : Array Value) (w : World) : (callFunc (9 : Nat) args).run Altd.prog w = .ok (.enter (9 : Nat) args) w := rfl
@[simp] theorem Altd.call10 (args : Array Value) (w : World) : (callFunc (10 : Nat) args).run Altd.prog w = .ok (.enter (10 : Nat) args) w := rfl
@[simp] theorem Altd.call11 (args : Array Value) (w : World) : (callFunc (11 : Nat) args).run Altd.prog w = .ok (.enter (11 : Nat) args) w := rfl
@[simp] theorem Altd.call12 (args : Array Value) (w : World) : (callFunc (12 : Nat) args).run Altd.prog w = .ok (.enter (12 : Nat) args) w := rfl
@[simp] theorem Altd.call13 (args : Array Value) (w : World) : (callFunc (13 : Nat) args).run Altd.prog w = .ok (.enter (13 : Nat) args) w := rfl
@[simp] theorem Altd.call14 (args : Array Value) (w : World) : (callFunc (14 : Nat) args).run Altd.prog w = .ok (.enter (14 : Nat) args) w := rfl
@[simp] theorem Altd.call15 (args : Array Value) (w : World) : (callFunc (15 : Nat) args).run Altd.prog w = .ok (.enter (15 : Nat) args) w := rfl
@[simp] theorem Altd.call16 (args : Array Value) (w : World) : (callFunc (16 : Nat) args).run Altd.prog w = .ok (.enter (16 : Nat) args) w := rfl
@[simp] theorem Altd.call17 (args : Array Value) (w : World) : (callFunc (17 : Nat) args).run Altd.prog w = .ok (.enter (17 : Nat) args) w := rfl
@[simp] theorem Altd.call18 (args : Array Value) (w : World) : (callFunc (18 : Nat) args).run Altd.prog w = .ok (.enter (18 : Nat) args) w := rfl
@[simp] theorem Altd.call19 (args : Array Value) (w : World) : (callFunc (19 : Nat) args).run Altd.prog w = .ok (.enter (19 : Nat) args) w := rfl
@[simp] theorem Altd.call20 (args : Array Value) (w : World) : (callFunc (20 : Nat) args).run Altd.prog w = .ok (.enter (20 : Nat) args) w := rfl
@[simp] theorem Altd.call21 (args : Array Value) (w : World) : (callFunc (21 : Nat) args).run Altd.prog w = .ok (.enter (21 : Nat) args) w := rfl
@[simp] theorem Altd.call22 (args : Array Value) (w : World) : (callFunc (22 : Nat) args).run Altd.prog w = .ok (.enter (22 : Nat) args) w := rfl
@[simp] theorem Altd.call23 (args : Array Value) (w : World) : (callFunc (23 : Nat) args).run Altd.prog w = .ok (.enter (23 : Nat) args) w := rfl
@[simp] theorem Altd.call24 (args : Array Value) (w : World) : (callFunc (24 : Nat) args).run Altd.prog w = .ok (.enter (24 : Nat) args) w := rfl
@[simp] theorem Altd.call25 (args : Array Value) (w : World) : (callFunc (25 : Nat) args).run Altd.prog w = .ok (.enter (25 : Nat) args) w := rfl
@[simp] theorem Altd.call26 (args : Array Value) (w : World) : (callFunc (26 : Nat) args).run Altd.prog w = .ok (.enter (26 : Nat) args) w := rfl
@[simp] theorem Altd.call27 (args : Array Value) (w : World) : (callFunc (27 : Nat) args).run Altd.prog w = .ok (.enter (27 : Nat) args) w := rfl
@[simp] theorem Altd.call28 (args : Array Value) (w : World) : (callFunc (28 : Nat) args).run Altd.prog w = .ok (.enter (28 : Nat) args) w := rfl
@[simp] theorem Altd.call29 (args : Array Value) (w : World) : (callFunc (29 : Nat) args).run Altd.prog w = .ok (.enter (29 : Nat) args) w := rfl
@[simp] theorem Altd.call30 (args : Array Value) (w : World) : (callFunc (30 : Nat) args).run Altd.prog w = .ok (.enter (30 : Nat) args) w := rfl
@[simp] theorem Altd.call31 (args : Array Value) (w : World) : (callFunc (31 : Nat) args).run Altd.prog w = .ok (.enter (31 : Nat) args) w := rfl
@[simp] theorem Altd.call32 (args : Array Value) (w : World) : (callFunc (32 : Nat) args).run Altd.prog w = .ok (.enter (32 : Nat) args) w := rfl
@[simp] theorem Altd.call33 (args : Array Value) (w : World) : (callFunc (33 : Nat) args).run Altd.prog w = .ok (.enter (33 : Nat) args) w := rfl
@[simp] theorem Altd.call34 (args : Array Value) (w : World) : (callFunc (34 : Nat) args).run Altd.prog w = .ok (.enter (34 : Nat) args) w := rfl
@[simp] theorem Altd.call35 (args : Array Value) (w : World) : (callFunc (35 : Nat) args).run Altd.prog w = .ok (.enter (35 : Nat) args) w := rfl
@[simp] theorem Altd.call36 (args : Array Value) (w : World) : (callFunc (36 : Nat) args).run Altd.prog w = .ok (.enter (36 : Nat) args) w := rfl
@[simp] theorem Altd.call37 (args : Array Value) (w : World) : (callFunc (37 : Nat) args).run Altd.prog w = .ok (.enter (37 : Nat) args) w := rfl
@[simp] theorem Altd.call38 (args : Array Value) (w : World) : (callFunc (38 : Nat) args).run Altd.prog w = .ok (.enter (38 : Nat) args) w := rfl
@[simp] theorem Altd.call39 (args : Array Value) (w : World) : (callFunc (39 : Nat) args).run Altd.prog w = .ok (.enter (39 : Nat) args) w := rfl
@[simp] theorem Altd.call40 (args : Array Value) (w : World) : (callFunc (40 : Nat) args).run Altd.prog w = .ok (.enter (40 : Nat) args) w := rfl
@[simp] theorem Altd.call41 (args : Array Value) (w : World) : (callFunc (41 : Nat) args).run Altd.prog w = .ok (.enter (41 : Nat) args) w := rfl
@[simp] theorem Altd.call42 (args : Array Value) (w : World) : (callFunc (42 : Nat) args).run Altd.prog w = .ok (.enter (42 : Nat) args) w := rfl
@[simp] theorem Altd.call43 (args : Array Value) (w : World) : (callFunc (43 : Nat) args).run Altd.prog w = .ok (.enter (43 : Nat) args) w := rfl
@[simp] theorem Altd.call44 (args : Array Value) (w : World) : (callFunc (44 : Nat) args).run Altd.prog w = .ok (.enter (44 : Nat) args) w := rfl
@[simp] theorem Altd.call45 (args : Array Value) (w : World) : (callFunc (45 : Nat) args).run Altd.prog w = .ok (.enter (45 : Nat) args) w := rfl
@[simp] theorem Altd.call46 (args : Array Value) (w : World) : (callFunc (46 : Nat) args).run Altd.prog w = .ok (.enter (46 : Nat) args) w := rfl
@[simp] theorem Altd.call47 (args : Array Value) (w : World) : (callFunc (47 : Nat) args).run Altd.prog w = .ok (.enter (47 : Nat) args) w := rfl
@[simp] theorem Altd.call48 (args : Array Value) (w : World) : (callFunc (48 : Nat) args).run Altd.prog w = .ok (.enter (48 : Nat) args) w := rfl
@[simp] theorem Altd.call49 (args : Array Value) (w : World) : (callFunc (49 : Nat) args).run Altd.prog w = .ok (.enter (49 : Nat) args) w := rfl
@[simp] theorem Altd.call50 (args : Array Value) (w : World) : (callFunc (50 : Nat) args).run Altd.prog w = .ok (.enter (50 : Nat) args) w := rfl
@[simp] theorem Altd.call51 (args : Array Value) (w : World) : (callFunc (51 : Nat) args).run Altd.prog w = .ok (.enter (51 : Nat) args) w := rfl
@[simp] theorem Altd.call52 (args : Array Value) (w : World) : (callFunc (52 : Nat) args).run Altd.prog w = .ok (.enter (52 : Nat) args) w := rfl
@[simp] theorem Altd.call53 (args : Array Value) (w : World) : (callFunc (53 : Nat) args).run Altd.prog w = .ok (.enter (53 : Nat) args) w := rfl
@[simp] theorem Altd.call54 (args : Array Value) (w : World) : (callFunc (54 : Nat) args).run Altd.prog w = .ok (.enter (54 : Nat) args) w := rfl
@[simp] theorem Altd.call55 (args : Array Value) (w : World) : (callFunc (55 : Nat) args).run Altd.prog w = .ok (.enter (55 : Nat) args) w := rfl
@[simp] theorem Altd.call56 (args : Array Value) (w : World) : (callFunc (56 : Nat) args).run Altd.prog w = .ok (.enter (56 : Nat) args) w := rfl
@[simp] theorem Altd.call57 (args : Array Value) (w : World) : (callFunc (57 : Nat) args).run Altd.prog w = .ok (.enter (57 : Nat) args) w := rfl
@[simp] theorem Altd.call58 (args : Array Value) (w : World) : (callFunc (58 : Nat) args).run Altd.prog w = .ok (.enter (58 : Nat) args) w := rfl
@[simp] theorem Altd.call59 (args : Array Value) (w : World) : (callFunc (59 : Nat) args).run Altd.prog w = .ok (.enter (59 : Nat) args) w := rfl
@[simp] theorem Altd.call60 (args : Array Value) (w : World) : (callFunc (60 : Nat) args).run Altd.prog w = .ok (.enter (60 : Nat) args) w := rfl
@[simp] theorem Altd.call61 (args : Array Value) (w : World) : (callFunc (61 : Nat) args).run Altd.prog w = .ok (.enter (61 : Nat) args) w := rfl
@[simp] theorem Altd.call82 (args : Array Value) (w : World) : (callFunc (82 : Nat) args).run Altd.prog w = .ok (.enter (82 : Nat) args) w := rfl
@[simp] theorem Altd.call83 (args : Array Value) (w : World) : (callFunc (83 : Nat) args).run Altd.prog w = .ok (.enter (83 : Nat) args) w := rfl
@[simp] theorem Altd.ntmps_strF : YtepbidaoloplbaaDoor.strF.ntmps = 29 := rfl
@[simp] theorem Altd.results_strF : YtepbidaoloplbaaDoor.strF.results = #[.tmp 4] := rfl
@[simp] theorem Altd.nfree_strF : YtepbidaoloplbaaDoor.strF.nfree = 0 := rfl
@[simp] theorem Altd.ntmps_chkF : YtepbidaoloplbaaDoor.chkF.ntmps = 11 := rfl
@[simp] theorem Altd.results_chkF : YtepbidaoloplbaaDoor.chkF.results = #[.tmp 1] := rfl
@[simp] theorem Altd.nfree_chkF : YtepbidaoloplbaaDoor.chkF.nfree = 0 := rfl
@[simp] theorem Altd.ntmps_chk3F : YtepbidaoloplbaaDoor.chk3F.ntmps = 21 := rfl
@[simp] theorem Altd.results_chk3F : YtepbidaoloplbaaDoor.chk3F.results = #[.tmp 4] := rfl
@[simp] theorem Altd.nfree_chk3F : YtepbidaoloplbaaDoor.chk3F.nfree = 0 := rfl
@[simp] theorem Altd.func0 : Altd.prog.funcs[0]? = some Tryd.f0 := rfl
@[simp] theorem Altd.func1 : Altd.prog.funcs[1]? = some Tryd.f1 := rfl
@[simp] theorem Altd.func2 : Altd.prog.funcs[2]? = some Tryd.f2 := rfl
@[simp] theorem Altd.func3 : Altd.prog.funcs[3]? = some Tryd.f3 := rfl
@[simp] theorem Altd.func4 : Altd.prog.funcs[4]? = some Tryd.f4 := rfl
@[simp] theorem Altd.func5 : Altd.prog.funcs[5]? = some Tryd.f5 := rfl
@[simp] theorem Altd.func6 : Altd.prog.funcs[6]? = some Tryd.f6 := rfl
@[simp] theorem Altd.func7 : Altd.prog.funcs[7]? = some Tryd.f7 := rfl
@[simp] theorem Altd.func8 : Altd.prog.funcs[8]? = some YtepbidaoloplbaaDoor.strF := rfl
@[simp] theorem Altd.func9 : Altd.prog.funcs[9]? = some Tryd.f9 := rfl
@[simp] theorem Altd.func10 : Altd.prog.funcs[10]? = some Tryd.f10 := rfl
@[simp] theorem Altd.func11 : Altd.prog.funcs[11]? = some Tryd.f11 := rfl
@[simp] theorem Altd.func12 : Altd.prog.funcs[12]? = some Tryd.f12 := rfl
@[simp] theorem Altd.func13 : Altd.prog.funcs[13]? = some Tryd.f13 := rfl
@[simp] theorem Altd.func14 : Altd.prog.funcs[14]? = some Tryd.f14 := rfl
@[simp] theorem Altd.func15 : Altd.prog.funcs[15]? = some Tryd.f15 := rfl
@[simp] theorem Altd.func16 : Altd.prog.funcs[16]? = some Tryd.f16 := rfl
@[simp] theorem Altd.func17 : Altd.prog.funcs[17]? = some Tryd.f17 := rfl
@[simp] theorem Altd.func18 : Altd.prog.funcs[18]? = some Tryd.f18 := rfl
@[simp] theorem Altd.func19 : Altd.prog.funcs[19]? = some Tryd.f19 := rfl
@[simp] theorem Altd.func20 : Altd.prog.funcs[20]? = some Tryd.f20 := rfl
@[simp] theorem Altd.func21 : Altd.prog.funcs[21]? = some Tryd.f21 := rfl
@[simp] theorem Altd.func22 : Altd.prog.funcs[22]? = some Tryd.f22 := rfl
@[simp] theorem Altd.func23 : Altd.prog.funcs[23]? = some Tryd.f23 := rfl
@[simp] theorem Altd.func24 : Altd.prog.funcs[24]? = some Tryd.f24 := rfl
@[simp] theorem Altd.func25 : Altd.prog.funcs[25]? = some Tryd.f25 := rfl
@[simp] theorem Altd.func26 : Altd.prog.funcs[26]? = some Tryd.f26 := rfl
@[simp] theorem Altd.func27 : Altd.prog.funcs[27]? = some Tryd.f27 := rfl
@[simp] theorem Altd.func28 : Altd.prog.funcs[28]? = some Tryd.f28 := rfl
@[simp] theorem Altd.func29 : Altd.prog.funcs[29]? = some Tryd.f29 := rfl
@[simp] theorem Altd.func30 : Altd.prog.funcs[30]? = some Tryd.f30 := rfl
@[simp] theorem Altd.func31 : Altd.prog.funcs[31]? = some Tryd.f31 := rfl
@[simp] theorem Altd.func32 : Altd.prog.funcs[32]? = some Tryd.f32 := rfl
@[simp] theorem Altd.func33 : Altd.prog.funcs[33]? = some Tryd.f33 := rfl
@[simp] theorem Altd.func34 : Altd.prog.funcs[34]? = some Tryd.f34 := rfl
@[simp] theorem Altd.func35 : Altd.prog.funcs[35]? = some Tryd.f35 := rfl
@[simp] theorem Altd.func36 : Altd.prog.funcs[36]? = some Tryd.f36 := rfl
@[simp] theorem Altd.func37 : Altd.prog.funcs[37]? = some Tryd.f37 := rfl
@[simp] theorem Altd.func38 : Altd.prog.funcs[38]? = some Tryd.f38 := rfl
@[simp] theorem Altd.func39 : Altd.prog.funcs[39]? = some Tryd.f39 := rfl
@[simp] theorem Altd.func40 : Altd.prog.funcs[40]? = some Tryd.f40 := rfl
@[simp] theorem Altd.func41 : Altd.prog.funcs[41]? = some Tryd.f41 := rfl
@[simp] theorem Altd.func42 : Altd.prog.funcs[42]? = some Tryd.f42 := rfl
@[simp] theorem Altd.func43 : Altd.prog.funcs[43]? = some Tryd.f43 := rfl
@[simp] theorem Altd.func44 : Altd.prog.funcs[44]? = some Tryd.f44 := rfl
@[simp] theorem Altd.func45 : Altd.prog.funcs[45]? = some Tryd.f45 := rfl
@[simp] theorem Altd.func46 : Altd.prog.funcs[46]? = some Tryd.f46 := rfl
@[simp] theorem Altd.func47 : Altd.prog.funcs[47]? = some Tryd.f47 := rfl
@[simp] theorem Altd.func48 : Altd.prog.funcs[48]? = some Tryd.f48 := rfl
@[simp] theorem Altd.func49 : Altd.prog.funcs[49]? = some Tryd.f49 := rfl
@[simp] theorem Altd.func50 : Altd.prog.funcs[50]? = some Tryd.f50 := rfl
@[simp] theorem Altd.func51 : Altd.prog.funcs[51]? = some Tryd.f51 := rfl
@[simp] theorem Altd.func52 : Altd.prog.funcs[52]? = some Tryd.f52 := rfl
@[simp] theorem Altd.func53 : Altd.prog.funcs[53]? = some Tryd.f53 := rfl
@[simp] theorem Altd.func54 : Altd.prog.funcs[54]? = some Tryd.f54 := rfl
@[simp] theorem Altd.func55 : Altd.prog.funcs[55]? = some Tryd.f55 := rfl
@[simp] theorem Altd.func56 : Altd.prog.funcs[56]? = some Tryd.f56 := rfl
@[simp] theorem Altd.func57 : Altd.prog.funcs[57]? = some Tryd.f57 := rfl
@[simp] theorem Altd.func58 : Altd.prog.funcs[58]? = some Tryd.f58 := rfl
@[simp] theorem Altd.func59 : Altd.prog.funcs[59]? = some Tryd.f59 := rfl
@[simp] theorem Altd.func60 : Altd.prog.funcs[60]? = some Tryd.f60 := rfl
@[simp] theorem Altd.func61 : Altd.prog.funcs[61]? = some Tryd.f61 := rfl
@[simp] theorem Altd.func62 : Altd.prog.funcs[62]? = some Tryd.f62 := rfl
@[simp] theorem Altd.func63 : Altd.prog.funcs[63]? = some Tryd.f63 := rfl
@[simp] theorem Altd.func64 : Altd.prog.funcs[64]? = some Tryd.f64 := rfl
@[simp] theorem Altd.func65 : Altd.prog.funcs[65]? = some Tryd.f65 := rfl
@[simp] theorem Altd.func66 : Altd.prog.funcs[66]? = some Tryd.f66 := rfl
@[simp] theorem Altd.func67 : Altd.prog.funcs[67]? = some Tryd.f67 := rfl
@[simp] theorem Altd.func68 : Altd.prog.funcs[68]? = some Tryd.f68 := rfl
@[simp] theorem Altd.func69 : Altd.prog.funcs[69]? = some Tryd.f69 := rfl
@[simp] theorem Altd.func70 : Altd.prog.funcs[70]? = some Tryd.f70 := rfl
@[simp] theorem Altd.func71 : Altd.prog.funcs[71]? = some Tryd.f71 := rfl
@[simp] theorem Altd.func72 : Altd.prog.funcs[72]? = some Tryd.f72 := rfl
@[simp] theorem Altd.func73 : Altd.prog.funcs[73]? = some Tryd.f73 := rfl
@[simp] theorem Altd.func74 : Altd.prog.funcs[74]? = some Tryd.f74 := rfl
@[simp] theorem Altd.func75 : Altd.prog.funcs[75]? = some Tryd.f75 := rfl
@[simp] theorem Altd.func76 : Altd.prog.funcs[76]? = some Tryd.f76 := rfl
@[simp] theorem Altd.func77 : Altd.prog.funcs[77]? = some Tryd.f77 := rfl
@[simp] theorem Altd.func78 : Altd.prog.funcs[78]? = some Tryd.f78 := rfl
@[simp] theorem Altd.func79 : Altd.prog.funcs[79]? = some Tryd.f79 := rfl
@[simp] theorem Altd.func80 : Altd.prog.funcs[80]? = some Tryd.f80 := rfl
@[simp] theorem Altd.func81 : Altd.prog.funcs[81]? = some Tryd.f81 := rfl
@[simp] theorem Altd.func82 : Altd.prog.funcs[82]? = some YtepbidaoloplbaaDoor.chkF := rfl
@[simp] theorem Altd.func83 : Altd.prog.funcs[83]? = some YtepbidaoloplbaaDoor.chk3F := rfl
theorem Altd.ntmps8 : YtepbidaoloplbaaDoor.strF.ntmps = 29 := rfl
theorem Altd.ntmps0 : Go.Proofs.Tryd.f0.ntmps = 0 := rfl
theorem Altd.ntmps1 : Go.Proofs.Tryd.f1.ntmps = 0 := rfl
theorem Altd.ntmps2 : Go.Proofs.Tryd.f2.ntmps = 1 := rfl
theorem Altd.ntmps3 : Go.Proofs.Tryd.f3.ntmps = 102 := rfl
theorem Altd.ntmps4 : Go.Proofs.Tryd.f4.ntmps = 88 := rfl
theorem Altd.ntmps5 : Go.Proofs.Tryd.f5.ntmps = 113 := rfl
theorem Altd.ntmps6 : Go.Proofs.Tryd.f6.ntmps = 6 := rfl
theorem Altd.ntmps7 : Go.Proofs.Tryd.f7.ntmps = 32 := rfl
theorem Altd.ntmps9 : Go.Proofs.Tryd.f9.ntmps = 18 := rfl
theorem Altd.ntmps10 : Go.Proofs.Tryd.f10.ntmps = 28 := rfl
theorem Altd.ntmps11 : Go.Proofs.Tryd.f11.ntmps = 8 := rfl
theorem Altd.ntmps12 : Go.Proofs.Tryd.f12.ntmps = 41 := rfl
theorem Altd.ntmps13 : Go.Proofs.Tryd.f13.ntmps = 66 := rfl
theorem Altd.ntmps14 : Go.Proofs.Tryd.f14.ntmps = 20 := rfl
theorem Altd.ntmps15 : Go.Proofs.Tryd.f15.ntmps = 48 := rfl
theorem Altd.ntmps16 : Go.Proofs.Tryd.f16.ntmps = 26 := rfl
theorem Altd.ntmps17 : Go.Proofs.Tryd.f17.ntmps = 77 := rfl
theorem Altd.ntmps18 : Go.Proofs.Tryd.f18.ntmps = 174 := rfl
theorem Altd.ntmps19 : Go.Proofs.Tryd.f19.ntmps = 22 := rfl
theorem Altd.ntmps20 : Go.Proofs.Tryd.f20.ntmps = 26 := rfl
theorem Altd.ntmps21 : Go.Proofs.Tryd.f21.ntmps = 20 := rfl
theorem Altd.ntmps22 : Go.Proofs.Tryd.f22.ntmps = 22 := rfl
theorem Altd.ntmps23 : Go.Proofs.Tryd.f23.ntmps = 32 := rfl
theorem Altd.ntmps24 : Go.Proofs.Tryd.f24.ntmps = 26 := rfl
theorem Altd.ntmps25 : Go.Proofs.Tryd.f25.ntmps = 6 := rfl
theorem Altd.ntmps26 : Go.Proofs.Tryd.f26.ntmps = 9 := rfl
theorem Altd.ntmps27 : Go.Proofs.Tryd.f27.ntmps = 37 := rfl
theorem Altd.ntmps28 : Go.Proofs.Tryd.f28.ntmps = 25 := rfl
theorem Altd.ntmps29 : Go.Proofs.Tryd.f29.ntmps = 42 := rfl
theorem Altd.ntmps30 : Go.Proofs.Tryd.f30.ntmps = 21 := rfl
theorem Altd.ntmps31 : Go.Proofs.Tryd.f31.ntmps = 32 := rfl
theorem Altd.ntmps32 : Go.Proofs.Tryd.f32.ntmps = 74 := rfl
theorem Altd.ntmps33 : Go.Proofs.Tryd.f33.ntmps = 10 := rfl
theorem Altd.ntmps34 : Go.Proofs.Tryd.f34.ntmps = 33 := rfl
theorem Altd.ntmps35 : Go.Proofs.Tryd.f35.ntmps = 15 := rfl
theorem Altd.ntmps36 : Go.Proofs.Tryd.f36.ntmps = 81 := rfl
theorem Altd.ntmps37 : Go.Proofs.Tryd.f37.ntmps = 38 := rfl
theorem Altd.ntmps38 : Go.Proofs.Tryd.f38.ntmps = 5 := rfl
theorem Altd.ntmps39 : Go.Proofs.Tryd.f39.ntmps = 32 := rfl
theorem Altd.ntmps40 : Go.Proofs.Tryd.f40.ntmps = 6 := rfl
theorem Altd.ntmps41 : Go.Proofs.Tryd.f41.ntmps = 8 := rfl
theorem Altd.ntmps42 : Go.Proofs.Tryd.f42.ntmps = 34 := rfl
theorem Altd.ntmps43 : Go.Proofs.Tryd.f43.ntmps = 44 := rfl
theorem Altd.ntmps44 : Go.Proofs.Tryd.f44.ntmps = 20 := rfl
theorem Altd.ntmps45 : Go.Proofs.Tryd.f45.ntmps = 20 := rfl
theorem Altd.ntmps46 : Go.Proofs.Tryd.f46.ntmps = 10 := rfl
theorem Altd.ntmps47 : Go.Proofs.Tryd.f47.ntmps = 12 := rfl
theorem Altd.ntmps48 : Go.Proofs.Tryd.f48.ntmps = 58 := rfl
theorem Altd.ntmps49 : Go.Proofs.Tryd.f49.ntmps = 36 := rfl
theorem Altd.ntmps50 : Go.Proofs.Tryd.f50.ntmps = 24 := rfl
theorem Altd.ntmps51 : Go.Proofs.Tryd.f51.ntmps = 28 := rfl
theorem Altd.ntmps52 : Go.Proofs.Tryd.f52.ntmps = 27 := rfl
theorem Altd.ntmps53 : Go.Proofs.Tryd.f53.ntmps = 30 := rfl
theorem Altd.ntmps54 : Go.Proofs.Tryd.f54.ntmps = 8 := rfl
theorem Altd.ntmps55 : Go.Proofs.Tryd.f55.ntmps = 27 := rfl
theorem Altd.ntmps56 : Go.Proofs.Tryd.f56.ntmps = 24 := rfl
theorem Altd.ntmps57 : Go.Proofs.Tryd.f57.ntmps = 34 := rfl
theorem Altd.ntmps58 : Go.Proofs.Tryd.f58.ntmps = 12 := rfl
theorem Altd.ntmps59 : Go.Proofs.Tryd.f59.ntmps = 6 := rfl
theorem Altd.ntmps60 : Go.Proofs.Tryd.f60.ntmps = 17 := rfl
theorem Altd.ntmps61 : Go.Proofs.Tryd.f61.ntmps = 28 := rfl
theorem Altd.ntmps62 : Go.Proofs.Tryd.f62.ntmps = 1 := rfl
theorem Altd.ntmps63 : Go.Proofs.Tryd.f63.ntmps = 1 := rfl
theorem Altd.ntmps64 : Go.Proofs.Tryd.f64.ntmps = 1 := rfl
theorem Altd.ntmps65 : Go.Proofs.Tryd.f65.ntmps = 1 := rfl
theorem Altd.ntmps66 : Go.Proofs.Tryd.f66.ntmps = 1 := rfl
theorem Altd.ntmps67 : Go.Proofs.Tryd.f67.ntmps = 1 := rfl
theorem Altd.ntmps68 : Go.Proofs.Tryd.f68.ntmps = 1 := rfl
theorem Altd.ntmps69 : Go.Proofs.Tryd.f69.ntmps = 1 := rfl
theorem Altd.ntmps70 : Go.Proofs.Tryd.f70.ntmps = 1 := rfl
theorem Altd.ntmps71 : Go.Proofs.Tryd.f71.ntmps = 1 := rfl
theorem Altd.ntmps72 : Go.Proofs.Tryd.f72.ntmps = 1 := rfl
theorem Altd.ntmps73 : Go.Proofs.Tryd.f73.ntmps = 1 := rfl
theorem Altd.ntmps74 : Go.Proofs.Tryd.f74.ntmps = 1 := rfl
theorem Altd.ntmps75 : Go.Proofs.Tryd.f75.ntmps = 1 := rfl
theorem Altd.ntmps76 : Go.Proofs.Tryd.f76.ntmps = 1 := rfl
theorem Altd.ntmps77 : Go.Proofs.Tryd.f77.ntmps = 1 := rfl
theorem Altd.ntmps78 : Go.Proofs.Tryd.f78.ntmps = 0 := rfl
theorem Altd.ntmps79 : Go.Proofs.Tryd.f79.ntmps = 0 := rfl
theorem Altd.ntmps80 : Go.Proofs.Tryd.f80.ntmps = 0 := rfl
theorem Altd.ntmps81 : Go.Proofs.Tryd.f81.ntmps = 9 := rfl
theorem Altd.underlying0 : Go.Proofs.Altd.prog.underlying (0 : Nat) = Option.some (Go.TypeDesc.tuple #[]) := rfl
theorem Altd.underlying1 : Go.Proofs.Altd.prog.underlying (1 : Nat) = Option.some (Go.TypeDesc.func #[] #[] Bool.false) := rfl
theorem Altd.underlying2 : Go.Proofs.Altd.prog.underlying (2 : Nat) = Option.some (Go.TypeDesc.int Go.IntKind.i64) := rfl
theorem Altd.underlying3 : Go.Proofs.Altd.prog.underlying (3 : Nat) = Option.some (Go.TypeDesc.int Go.IntKind.i64) := rfl
theorem Altd.underlying4 : Go.Proofs.Altd.prog.underlying (4 : Nat) = Option.some Go.TypeDesc.bool := rfl
theorem Altd.underlying5 : Go.Proofs.Altd.prog.underlying (5 : Nat) = Option.some (Go.TypeDesc.int Go.IntKind.u8) := rfl
theorem Altd.underlying6 : Go.Proofs.Altd.prog.underlying (6 : Nat) = Option.some (Go.TypeDesc.int Go.IntKind.u8) := rfl
theorem Altd.underlying7 : Go.Proofs.Altd.prog.underlying (7 : Nat) = Option.some (Go.TypeDesc.struct #[{ name := "x", type := (2 : Nat), offset := (0 : Nat), embedded := Bool.false, tag := "", pkgPath := "runtime", byteOffset := (0 : Nat) }, { name := "y", type := (3 : Nat), offset := (1 : Nat), embedded := Bool.false, tag := "", pkgPath := "runtime", byteOffset := (8 : Nat) }, { name := "signed", type := (4 : Nat), offset := (2 : Nat), embedded := Bool.false, tag := "", pkgPath := "runtime", byteOffset := (16 : Nat) }, { name := "code", type := (6 : Nat), offset := (3 : Nat), embedded := Bool.false, tag := "", pkgPath := "runtime", byteOffset := (17 : Nat) }]) := rfl
theorem Altd.underlying8 : Go.Proofs.Altd.prog.underlying (8 : Nat) = Option.some (Go.TypeDesc.struct #[{ name := "x", type := (2 : Nat), offset := (0 : Nat), embedded := Bool.false, tag := "", pkgPath := "runtime", byteOffset := (0 : Nat) }, { name := "y", type := (3 : Nat), offset := (1 : Nat), embedded := Bool.false, tag := "", pkgPath := "runtime", byteOffset := (8 : Nat) }, { name := "signed", type := (4 : Nat), offset := (2 : Nat), embedded := Bool.false, tag := "", pkgPath := "runtime", byteOffset := (16 : Nat) }, { name := "code", type := (6 : Nat), offset := (3 : Nat), embedded := Bool.false, tag := "", pkgPath := "runtime", byteOffset := (17 : Nat) }]) := rfl
theorem Altd.underlying9 : Go.Proofs.Altd.prog.underlying (9 : Nat) = Option.some Go.TypeDesc.string := rfl
theorem Altd.underlying10 : Go.Proofs.Altd.prog.underlying (10 : Nat) = Option.some Go.TypeDesc.string := rfl
theorem Altd.underlying11 : Go.Proofs.Altd.prog.underlying (11 : Nat) = Option.some Go.TypeDesc.string := rfl
theorem Altd.underlying12 : Go.Proofs.Altd.prog.underlying (12 : Nat) = Option.some (Go.TypeDesc.int Go.IntKind.u64) := rfl
theorem Altd.underlying13 : Go.Proofs.Altd.prog.underlying (13 : Nat) = Option.some (Go.TypeDesc.struct #[{ name := "msg", type := (9 : Nat), offset := (0 : Nat), embedded := Bool.false, tag := "", pkgPath := "runtime", byteOffset := (0 : Nat) }, { name := "addr", type := (12 : Nat), offset := (1 : Nat), embedded := Bool.false, tag := "", pkgPath := "runtime", byteOffset := (16 : Nat) }]) := rfl
theorem Altd.underlying14 : Go.Proofs.Altd.prog.underlying (14 : Nat) = Option.some (Go.TypeDesc.struct #[{ name := "msg", type := (9 : Nat), offset := (0 : Nat), embedded := Bool.false, tag := "", pkgPath := "runtime", byteOffset := (0 : Nat) }, { name := "addr", type := (12 : Nat), offset := (1 : Nat), embedded := Bool.false, tag := "", pkgPath := "runtime", byteOffset := (16 : Nat) }]) := rfl
theorem Altd.underlying15 : Go.Proofs.Altd.prog.underlying (15 : Nat) = Option.some (Go.TypeDesc.pointer (83 : Nat)) := rfl
theorem Altd.underlying16 : Go.Proofs.Altd.prog.underlying (16 : Nat) = Option.some (Go.TypeDesc.pointer (86 : Nat)) := rfl
theorem Altd.underlying17 : Go.Proofs.Altd.prog.underlying (17 : Nat) = Option.some (Go.TypeDesc.pointer (95 : Nat)) := rfl
theorem Altd.underlying18 : Go.Proofs.Altd.prog.underlying (18 : Nat) = Option.some (Go.TypeDesc.struct #[{ name := "typ", type := (17 : Nat), offset := (0 : Nat), embedded := Bool.false, tag := "", pkgPath := "internal/runtime/maps", byteOffset := (0 : Nat) }]) := rfl
theorem Altd.underlying19 : Go.Proofs.Altd.prog.underlying (19 : Nat) = Option.some (Go.TypeDesc.struct #[{ name := "typ", type := (17 : Nat), offset := (0 : Nat), embedded := Bool.false, tag := "", pkgPath := "internal/runtime/maps", byteOffset := (0 : Nat) }]) := rfl
theorem Altd.underlying20 : Go.Proofs.Altd.prog.underlying (20 : Nat) = Option.some (Go.TypeDesc.interface #[]) := rfl
theorem Altd.underlying21 : Go.Proofs.Altd.prog.underlying (21 : Nat) = Option.some (Go.TypeDesc.int Go.IntKind.i32) := rfl
theorem Altd.underlying22 : Go.Proofs.Altd.prog.underlying (22 : Nat) = Option.some (Go.TypeDesc.slice (5 : Nat)) := rfl
theorem Altd.underlying23 : Go.Proofs.Altd.prog.underlying (23 : Nat) = Option.some (Go.TypeDesc.func #[(22 : Nat)] #[(4 : Nat)] Bool.false) := rfl
theorem Altd.underlying24 : Go.Proofs.Altd.prog.underlying (24 : Nat) = Option.some (Go.TypeDesc.tuple #[(22 : Nat), (3 : Nat), (22 : Nat), (22 : Nat)]) := rfl
theorem Altd.underlying25 : Go.Proofs.Altd.prog.underlying (25 : Nat) = Option.some (Go.TypeDesc.func #[(22 : Nat)] #[(22 : Nat), (3 : Nat), (22 : Nat), (22 : Nat)] Bool.false) := rfl
theorem Altd.underlying26 : Go.Proofs.Altd.prog.underlying (26 : Nat) = Option.some (Go.TypeDesc.func #[(22 : Nat), (3 : Nat), (22 : Nat), (22 : Nat)] #[(22 : Nat)] Bool.false) := rfl
theorem Altd.underlying27 : Go.Proofs.Altd.prog.underlying (27 : Nat) = Option.some (Go.TypeDesc.tuple #[(22 : Nat), (3 : Nat), (22 : Nat)]) := rfl
theorem Altd.underlying28 : Go.Proofs.Altd.prog.underlying (28 : Nat) = Option.some (Go.TypeDesc.func #[(22 : Nat)] #[(22 : Nat), (3 : Nat), (22 : Nat)] Bool.false) := rfl
theorem Altd.underlying29 : Go.Proofs.Altd.prog.underlying (29 : Nat) = Option.some (Go.TypeDesc.func #[(22 : Nat), (3 : Nat), (22 : Nat)] #[(22 : Nat)] Bool.false) := rfl
theorem Altd.underlying30 : Go.Proofs.Altd.prog.underlying (30 : Nat) = Option.some (Go.TypeDesc.func #[(22 : Nat), (22 : Nat)] #[(4 : Nat)] Bool.false) := rfl
theorem Altd.underlying31 : Go.Proofs.Altd.prog.underlying (31 : Nat) = Option.some (Go.TypeDesc.func #[(22 : Nat), (3 : Nat)] #[(3 : Nat)] Bool.false) := rfl
theorem Altd.underlying32 : Go.Proofs.Altd.prog.underlying (32 : Nat) = Option.some (Go.TypeDesc.slice (3 : Nat)) := rfl
theorem Altd.underlying33 : Go.Proofs.Altd.prog.underlying (33 : Nat) = Option.some (Go.TypeDesc.tuple #[(32 : Nat), (3 : Nat), (3 : Nat), (3 : Nat), (3 : Nat)]) := rfl
theorem Altd.underlying34 : Go.Proofs.Altd.prog.underlying (34 : Nat) = Option.some (Go.TypeDesc.func #[(22 : Nat)] #[(32 : Nat), (3 : Nat), (3 : Nat), (3 : Nat), (3 : Nat)] Bool.false) := rfl
theorem Altd.underlying35 : Go.Proofs.Altd.prog.underlying (35 : Nat) = Option.some (Go.TypeDesc.func #[(32 : Nat), (32 : Nat)] #[(4 : Nat)] Bool.false) := rfl
theorem Altd.underlying36 : Go.Proofs.Altd.prog.underlying (36 : Nat) = Option.some (Go.TypeDesc.func #[(32 : Nat), (3 : Nat), (3 : Nat), (3 : Nat), (3 : Nat)] #[(32 : Nat)] Bool.false) := rfl
theorem Altd.underlying37 : Go.Proofs.Altd.prog.underlying (37 : Nat) = Option.some (Go.TypeDesc.func #[(22 : Nat)] #[(22 : Nat)] Bool.false) := rfl
theorem Altd.underlying38 : Go.Proofs.Altd.prog.underlying (38 : Nat) = Option.some (Go.TypeDesc.func #[(22 : Nat), (3 : Nat), (22 : Nat), (22 : Nat)] #[(4 : Nat)] Bool.false) := rfl
theorem Altd.underlying39 : Go.Proofs.Altd.prog.underlying (39 : Nat) = Option.some (Go.TypeDesc.pointer (65 : Nat)) := rfl
theorem Altd.underlying40 : Go.Proofs.Altd.prog.underlying (40 : Nat) = Option.some (Go.TypeDesc.func #[(22 : Nat)] #[(39 : Nat)] Bool.false) := rfl
theorem Altd.underlying41 : Go.Proofs.Altd.prog.underlying (41 : Nat) = Option.some (Go.TypeDesc.func #[(39 : Nat), (3 : Nat)] #[(22 : Nat)] Bool.false) := rfl
theorem Altd.underlying42 : Go.Proofs.Altd.prog.underlying (42 : Nat) = Option.some (Go.TypeDesc.func #[(39 : Nat)] #[(3 : Nat)] Bool.false) := rfl
theorem Altd.underlying43 : Go.Proofs.Altd.prog.underlying (43 : Nat) = Option.some (Go.TypeDesc.func #[(39 : Nat), (3 : Nat)] #[(4 : Nat)] Bool.false) := rfl
theorem Altd.underlying44 : Go.Proofs.Altd.prog.underlying (44 : Nat) = Option.some (Go.TypeDesc.func #[(39 : Nat), (3 : Nat)] #[(3 : Nat)] Bool.false) := rfl
theorem Altd.underlying45 : Go.Proofs.Altd.prog.underlying (45 : Nat) = Option.some (Go.TypeDesc.int Go.IntKind.u32) := rfl
theorem Altd.underlying46 : Go.Proofs.Altd.prog.underlying (46 : Nat) = Option.some (Go.TypeDesc.int Go.IntKind.u32) := rfl
theorem Altd.underlying47 : Go.Proofs.Altd.prog.underlying (47 : Nat) = Option.some (Go.TypeDesc.array (16 : Nat) (46 : Nat)) := rfl
theorem Altd.underlying48 : Go.Proofs.Altd.prog.underlying (48 : Nat) = Option.some (Go.TypeDesc.array (16 : Nat) (46 : Nat)) := rfl
theorem Altd.underlying49 : Go.Proofs.Altd.prog.underlying (49 : Nat) = Option.some (Go.TypeDesc.tuple #[(48 : Nat), (4 : Nat)]) := rfl
theorem Altd.underlying50 : Go.Proofs.Altd.prog.underlying (50 : Nat) = Option.some (Go.TypeDesc.func #[(22 : Nat), (22 : Nat)] #[(48 : Nat), (4 : Nat)] Bool.false) := rfl
theorem Altd.underlying51 : Go.Proofs.Altd.prog.underlying (51 : Nat) = Option.some (Go.TypeDesc.chan Go.ChanDir.both (22 : Nat)) := rfl
theorem Altd.underlying52 : Go.Proofs.Altd.prog.underlying (52 : Nat) = Option.some (Go.TypeDesc.func #[(68 : Nat), (3 : Nat), (3 : Nat)] #[] Bool.false) := rfl
theorem Altd.underlying53 : Go.Proofs.Altd.prog.underlying (53 : Nat) = Option.some (Go.TypeDesc.func #[(22 : Nat), (22 : Nat)] #[(22 : Nat)] Bool.false) := rfl
theorem Altd.underlying54 : Go.Proofs.Altd.prog.underlying (54 : Nat) = Option.some (Go.TypeDesc.func #[(3 : Nat)] #[(22 : Nat)] Bool.false) := rfl
theorem Altd.underlying55 : Go.Proofs.Altd.prog.underlying (55 : Nat) = Option.some (Go.TypeDesc.func #[(3 : Nat), (3 : Nat), (3 : Nat)] #[(4 : Nat)] Bool.false) := rfl
theorem Altd.underlying56 : Go.Proofs.Altd.prog.underlying (56 : Nat) = Option.some (Go.TypeDesc.func #[(22 : Nat), (4 : Nat)] #[(32 : Nat)] Bool.false) := rfl
theorem Altd.underlying57 : Go.Proofs.Altd.prog.underlying (57 : Nat) = Option.some (Go.TypeDesc.func #[(32 : Nat)] #[(32 : Nat)] Bool.false) := rfl
theorem Altd.underlying58 : Go.Proofs.Altd.prog.underlying (58 : Nat) = Option.some (Go.TypeDesc.func #[(3 : Nat)] #[(3 : Nat)] Bool.false) := rfl
theorem Altd.underlying59 : Go.Proofs.Altd.prog.underlying (59 : Nat) = Option.some (Go.TypeDesc.func #[(32 : Nat), (4 : Nat)] #[(22 : Nat)] Bool.false) := rfl
theorem Altd.underlying60 : Go.Proofs.Altd.prog.underlying (60 : Nat) = Option.some (Go.TypeDesc.func #[(3 : Nat), (3 : Nat), (3 : Nat), (3 : Nat)] #[(4 : Nat)] Bool.false) := rfl
theorem Altd.underlying61 : Go.Proofs.Altd.prog.underlying (61 : Nat) = Option.some (Go.TypeDesc.tuple #[(46 : Nat), (46 : Nat), (46 : Nat), (46 : Nat)]) := rfl
theorem Altd.underlying62 : Go.Proofs.Altd.prog.underlying (62 : Nat) = Option.some (Go.TypeDesc.func #[(46 : Nat), (46 : Nat), (46 : Nat), (46 : Nat)] #[(46 : Nat), (46 : Nat), (46 : Nat), (46 : Nat)] Bool.false) := rfl
theorem Altd.underlying63 : Go.Proofs.Altd.prog.underlying (63 : Nat) = Option.some (Go.TypeDesc.func #[(3 : Nat), (3 : Nat)] #[(3 : Nat)] Bool.false) := rfl
theorem Altd.underlying64 : Go.Proofs.Altd.prog.underlying (64 : Nat) = Option.some (Go.TypeDesc.struct #[{ name := "b", type := (22 : Nat), offset := (0 : Nat), embedded := Bool.false, tag := "", pkgPath := "loop.example/g00473/spec", byteOffset := (0 : Nat) }, { name := "i", type := (3 : Nat), offset := (1 : Nat), embedded := Bool.false, tag := "", pkgPath := "loop.example/g00473/spec", byteOffset := (24 : Nat) }, { name := "h", type := (3 : Nat), offset := (2 : Nat), embedded := Bool.false, tag := "", pkgPath := "loop.example/g00473/spec", byteOffset := (32 : Nat) }]) := rfl
theorem Altd.underlying65 : Go.Proofs.Altd.prog.underlying (65 : Nat) = Option.some (Go.TypeDesc.struct #[{ name := "b", type := (22 : Nat), offset := (0 : Nat), embedded := Bool.false, tag := "", pkgPath := "loop.example/g00473/spec", byteOffset := (0 : Nat) }, { name := "i", type := (3 : Nat), offset := (1 : Nat), embedded := Bool.false, tag := "", pkgPath := "loop.example/g00473/spec", byteOffset := (24 : Nat) }, { name := "h", type := (3 : Nat), offset := (2 : Nat), embedded := Bool.false, tag := "", pkgPath := "loop.example/g00473/spec", byteOffset := (32 : Nat) }]) := rfl
theorem Altd.underlying66 : Go.Proofs.Altd.prog.underlying (66 : Nat) = Option.some (Go.TypeDesc.func #[(39 : Nat), (32 : Nat)] #[(3 : Nat)] Bool.false) := rfl
theorem Altd.underlying67 : Go.Proofs.Altd.prog.underlying (67 : Nat) = Option.some (Go.TypeDesc.func #[(75 : Nat)] #[(32 : Nat)] Bool.true) := rfl
theorem Altd.underlying68 : Go.Proofs.Altd.prog.underlying (68 : Nat) = Option.some (Go.TypeDesc.chan Go.ChanDir.send (22 : Nat)) := rfl
theorem Altd.underlying69 : Go.Proofs.Altd.prog.underlying (69 : Nat) = Option.some (Go.TypeDesc.array (4 : Nat) (3 : Nat)) := rfl
theorem Altd.underlying70 : Go.Proofs.Altd.prog.underlying (70 : Nat) = Option.some (Go.TypeDesc.array (8 : Nat) (69 : Nat)) := rfl
theorem Altd.underlying71 : Go.Proofs.Altd.prog.underlying (71 : Nat) = Option.some (Go.TypeDesc.int Go.IntKind.u64) := rfl
theorem Altd.underlying72 : Go.Proofs.Altd.prog.underlying (72 : Nat) = Option.some (Go.TypeDesc.func #[(3 : Nat), (3 : Nat)] #[(22 : Nat)] Bool.false) := rfl
theorem Altd.underlying73 : Go.Proofs.Altd.prog.underlying (73 : Nat) = Option.some (Go.TypeDesc.array (16 : Nat) (4 : Nat)) := rfl
theorem Altd.underlying74 : Go.Proofs.Altd.prog.underlying (74 : Nat) = Option.some (Go.TypeDesc.func #[(3 : Nat)] #[(46 : Nat)] Bool.false) := rfl
theorem Altd.underlying75 : Go.Proofs.Altd.prog.underlying (75 : Nat) = Option.some (Go.TypeDesc.slice (32 : Nat)) := rfl
theorem Altd.underlying76 : Go.Proofs.Altd.prog.underlying (76 : Nat) = Option.some (Go.TypeDesc.func #[(32 : Nat), (3 : Nat)] #[(32 : Nat)] Bool.false) := rfl
theorem Altd.underlying77 : Go.Proofs.Altd.prog.underlying (77 : Nat) = Option.some (Go.TypeDesc.func #[(78 : Nat), (4 : Nat)] #[(3 : Nat)] Bool.false) := rfl
theorem Altd.underlying78 : Go.Proofs.Altd.prog.underlying (78 : Nat) = Option.some (Go.TypeDesc.array (4 : Nat) (5 : Nat)) := rfl
theorem Altd.underlying79 : Go.Proofs.Altd.prog.underlying (79 : Nat) = Option.some (Go.TypeDesc.func #[(45 : Nat), (3 : Nat)] #[(45 : Nat)] Bool.false) := rfl
theorem Altd.underlying80 : Go.Proofs.Altd.prog.underlying (80 : Nat) = Option.some (Go.TypeDesc.func #[(22 : Nat)] #[] Bool.false) := rfl
theorem Altd.underlying81 : Go.Proofs.Altd.prog.underlying (81 : Nat) = Option.some (Go.TypeDesc.func #[] #[(9 : Nat)] Bool.false) := rfl
theorem Altd.underlying82 : Go.Proofs.Altd.prog.underlying (82 : Nat) = Option.some (Go.TypeDesc.struct #[{ name := "_interface", type := (17 : Nat), offset := (0 : Nat), embedded := Bool.false, tag := "", pkgPath := "runtime", byteOffset := (0 : Nat) }, { name := "concrete", type := (17 : Nat), offset := (1 : Nat), embedded := Bool.false, tag := "", pkgPath := "runtime", byteOffset := (8 : Nat) }, { name := "asserted", type := (17 : Nat), offset := (2 : Nat), embedded := Bool.false, tag := "", pkgPath := "runtime", byteOffset := (16 : Nat) }, { name := "missingMethod", type := (9 : Nat), offset := (3 : Nat), embedded := Bool.false, tag := "", pkgPath := "runtime", byteOffset := (24 : Nat) }]) := rfl
theorem Altd.underlying83 : Go.Proofs.Altd.prog.underlying (83 : Nat) = Option.some (Go.TypeDesc.struct #[{ name := "_interface", type := (17 : Nat), offset := (0 : Nat), embedded := Bool.false, tag := "", pkgPath := "runtime", byteOffset := (0 : Nat) }, { name := "concrete", type := (17 : Nat), offset := (1 : Nat), embedded := Bool.false, tag := "", pkgPath := "runtime", byteOffset := (8 : Nat) }, { name := "asserted", type := (17 : Nat), offset := (2 : Nat), embedded := Bool.false, tag := "", pkgPath := "runtime", byteOffset := (16 : Nat) }, { name := "missingMethod", type := (9 : Nat), offset := (3 : Nat), embedded := Bool.false, tag := "", pkgPath := "runtime", byteOffset := (24 : Nat) }]) := rfl
theorem Altd.underlying84 : Go.Proofs.Altd.prog.underlying (84 : Nat) = Option.some (Go.TypeDesc.array (0 : Nat) (16 : Nat)) := rfl
theorem Altd.underlying85 : Go.Proofs.Altd.prog.underlying (85 : Nat) = Option.some (Go.TypeDesc.struct #[{ name := "_", type := (84 : Nat), offset := (0 : Nat), embedded := Bool.false, tag := "", pkgPath := "runtime", byteOffset := (0 : Nat) }]) := rfl
theorem Altd.underlying86 : Go.Proofs.Altd.prog.underlying (86 : Nat) = Option.some (Go.TypeDesc.struct #[{ name := "_", type := (84 : Nat), offset := (0 : Nat), embedded := Bool.false, tag := "", pkgPath := "runtime", byteOffset := (0 : Nat) }]) := rfl
theorem Altd.underlying87 : Go.Proofs.Altd.prog.underlying (87 : Nat) = Option.some (Go.TypeDesc.func #[] #[(3 : Nat)] Bool.false) := rfl
theorem Altd.underlying88 : Go.Proofs.Altd.prog.underlying (88 : Nat) = Option.some (Go.TypeDesc.int Go.IntKind.u8) := rfl
theorem Altd.underlying89 : Go.Proofs.Altd.prog.underlying (89 : Nat) = Option.some (Go.TypeDesc.int Go.IntKind.u8) := rfl
theorem Altd.underlying90 : Go.Proofs.Altd.prog.underlying (90 : Nat) = Option.some (Go.TypeDesc.func #[(96 : Nat), (96 : Nat)] #[(4 : Nat)] Bool.false) := rfl
theorem Altd.underlying91 : Go.Proofs.Altd.prog.underlying (91 : Nat) = Option.some (Go.TypeDesc.pointer (5 : Nat)) := rfl
theorem Altd.underlying92 : Go.Proofs.Altd.prog.underlying (92 : Nat) = Option.some (Go.TypeDesc.int Go.IntKind.i32) := rfl
theorem Altd.underlying93 : Go.Proofs.Altd.prog.underlying (93 : Nat) = Option.some (Go.TypeDesc.int Go.IntKind.i32) := rfl
theorem Altd.underlying94 : Go.Proofs.Altd.prog.underlying (94 : Nat) = Option.some (Go.TypeDesc.struct #[{ name := "Size_", type := (12 : Nat), offset := (0 : Nat), embedded := Bool.false, tag := "", pkgPath := "", byteOffset := (0 : Nat) }, { name := "PtrBytes", type := (12 : Nat), offset := (1 : Nat), embedded := Bool.false, tag := "", pkgPath := "", byteOffset := (8 : Nat) }, { name := "Hash", type := (45 : Nat), offset := (2 : Nat), embedded := Bool.false, tag := "", pkgPath := "", byteOffset := (16 : Nat) }, { name := "TFlag", type := (88 : Nat), offset := (3 : Nat), embedded := Bool.false, tag := "", pkgPath := "", byteOffset := (20 : Nat) }, { name := "Align_", type := (5 : Nat), offset := (4 : Nat), embedded := Bool.false, tag := "", pkgPath := "", byteOffset := (21 : Nat) }, { name := "FieldAlign_", type := (5 : Nat), offset := (5 : Nat), embedded := Bool.false, tag := "", pkgPath := "", byteOffset := (22 : Nat) }, { name := "Kind_", type := (89 : Nat), offset := (6 : Nat), embedded := Bool.false, tag := "", pkgPath := "", byteOffset := (23 : Nat) }, { name := "Equal", type := (90 : Nat), offset := (7 : Nat), embedded := Bool.false, tag := "", pkgPath := "", byteOffset := (24 : Nat) }, { name := "GCData", type := (91 : Nat), offset := (8 : Nat), embedded := Bool.false, tag := "", pkgPath := "", byteOffset := (32 : Nat) }, { name := "Str", type := (92 : Nat), offset := (9 : Nat), embedded := Bool.false, tag := "", pkgPath := "", byteOffset := (40 : Nat) }, { name := "PtrToThis", type := (93 : Nat), offset := (10 : Nat), embedded := Bool.false, tag := "", pkgPath := "", byteOffset := (44 : Nat) }]) := rfl
theorem Altd.underlying95 : Go.Proofs.Altd.prog.underlying (95 : Nat) = Option.some (Go.TypeDesc.struct #[{ name := "Size_", type := (12 : Nat), offset := (0 : Nat), embedded := Bool.false, tag := "", pkgPath := "", byteOffset := (0 : Nat) }, { name := "PtrBytes", type := (12 : Nat), offset := (1 : Nat), embedded := Bool.false, tag := "", pkgPath := "", byteOffset := (8 : Nat) }, { name := "Hash", type := (45 : Nat), offset := (2 : Nat), embedded := Bool.false, tag := "", pkgPath := "", byteOffset := (16 : Nat) }, { name := "TFlag", type := (88 : Nat), offset := (3 : Nat), embedded := Bool.false, tag := "", pkgPath := "", byteOffset := (20 : Nat) }, { name := "Align_", type := (5 : Nat), offset := (4 : Nat), embedded := Bool.false, tag := "", pkgPath := "", byteOffset := (21 : Nat) }, { name := "FieldAlign_", type := (5 : Nat), offset := (5 : Nat), embedded := Bool.false, tag := "", pkgPath := "", byteOffset := (22 : Nat) }, { name := "Kind_", type := (89 : Nat), offset := (6 : Nat), embedded := Bool.false, tag := "", pkgPath := "", byteOffset := (23 : Nat) }, { name := "Equal", type := (90 : Nat), offset := (7 : Nat), embedded := Bool.false, tag := "", pkgPath := "", byteOffset := (24 : Nat) }, { name := "GCData", type := (91 : Nat), offset := (8 : Nat), embedded := Bool.false, tag := "", pkgPath := "", byteOffset := (32 : Nat) }, { name := "Str", type := (92 : Nat), offset := (9 : Nat), embedded := Bool.false, tag := "", pkgPath := "", byteOffset := (40 : Nat) }, { name := "PtrToThis", type := (93 : Nat), offset := (10 : Nat), embedded := Bool.false, tag := "", pkgPath := "", byteOffset := (44 : Nat) }]) := rfl
theorem Altd.underlying96 : Go.Proofs.Altd.prog.underlying (96 : Nat) = Option.some Go.TypeDesc.unsafePointer := rfl
end Go.Proofs

namespace Go.Proofs.YtepbidaoloplbaaDoor.Alt
open Go.RowKit

theorem infoByte : (Altd.prog.info? 5).map (fun i => (i.zero, i.size, i.bytes)) = some (some (.int .u8 0), 1, 1) := by kernel_rfl

end Go.Proofs.YtepbidaoloplbaaDoor.Alt

namespace Go.Proofs.YtepbidaoloplbaaDoor.Alt
open Go.RowKit

theorem specWord_same (n : Int) (w : World) :
    Calls Altd.prog 38 #[.int .i64 n] w fun e w' => e = .returned (.int .i64 (n % 4294967296)) ∧ w' = w := by
  have hm := i64_mask32 n
  go_enter Altd.func38, Altd.ntmps38
  go_wp2
  go_ret
  exact ⟨rfl, rfl⟩

theorem implWord_same (n : Int) (w : World) :
    Calls Altd.prog 59 #[.int .i64 n] w fun e w' => e = .returned (.int .i64 (n % 4294967296)) ∧ w' = w := by
  go_enter Altd.func59, Altd.ntmps59
  go_wp2
  go_ret
  exact ⟨rfl, rfl⟩

theorem specWord_any (n : Int) (w : World) :
    Calls Altd.prog 38 #[.int .i64 n] w fun e w' => e = .returned (.int .i64 (n % 4294967296)) ∧ Below w.heap.size w w' :=
  (specWord_same n w).mono fun _ _ ⟨h1, h2⟩ => ⟨h1, by rw [h2]; exact Below.refl _ _⟩

end Go.Proofs.YtepbidaoloplbaaDoor.Alt

namespace Go.Proofs.YtepbidaoloplbaaDoor
open Go.RowKit

theorem rotate_same (x : Nat) (k : Int) (w : World) (hx : x < 4294967296) :
    Calls Tryd.prog 60 #[.int .u32 x, .int .i64 k] w fun e w' => e = .returned (.int .u32 ((turnN x (countN k) : Nat) : Int)) ∧ w' = w := by
  have hm := (u64_mask31 k).trans (countN_eq k).symm
  have hlt := countN_lt k
  generalize countN k = m at hm hlt ⊢
  have ho := turn_u32 hx hlt
  go_enter Tryd.func60, Tryd.ntmps60
  go_wp2
  go_ret
  exact ⟨rfl, rfl⟩

theorem turned_same (x : Nat) (k : Int) (w : World) (hx : x < 4294967296) :
    Calls Tryd.prog 54 #[.int .u32 x, .int .i64 k] w fun e w' => e = .returned (.int .u32 ((turnN x (countN k) : Nat) : Int)) ∧ w' = w := by
  have hr := turn_lt hx (countN_lt k)
  have hc := fun w => rotate_same x k w hx
  generalize turnN x (countN k) = r at hr hc ⊢
  go_enter Tryd.func54, Tryd.ntmps54
  go_wp2_with (fail)
  refine (hc _).mono ?_
  rintro e w1 ⟨rfl, rfl⟩
  go_wp2
  go_ret
  exact ⟨rfl, rfl⟩

theorem specTurn_any (n k : Int) (w : World) :
    Calls Tryd.prog 44 #[.int .i64 n, .int .i64 k] w fun e w' => e = .returned (.int .i64 (turnI n k)) ∧ Below w.heap.size w w' := by
  have hx := wordN_lt n
  have he := wordN_eq n
  have hm := (i64_mask31 k).trans (countN_eq k).symm
  have hlt := countN_lt k
  unfold turnI
  generalize wordN n = x at hx he ⊢
  generalize countN k = m at hm hlt ⊢
  have ho := turn_i64 hx hlt
  have hs := shl_small hx hlt
  generalize turnN x m = r at ho ⊢
  go_enter Tryd.func44, Tryd.ntmps44
  go_wp2_with (fail)
  refine (specWord_same n _).mono ?_
  rintro e w1 ⟨rfl, rfl⟩
  rw [← he]
  clear he
  go_wp2_with (fail)
  go_quiet ((go_at_call 38; exact Calls.quiet_of_same (specWord_same _ _)))
  go_wp2
  go_ret
  rw [ho]
  exact ⟨rfl, below_drewN (Below.refl _ _) _⟩

end Go.Proofs.YtepbidaoloplbaaDoor
