/-
  A part of the proof.
-/
import Derived.Test.YtnpffnhiefgglaaGreatDoorParw22
import Derived.Test.YtnpffnhiefgglaaGreatDoorParw19
import Derived.Test.YtnpffnhiefgglaaGreatDoorParw10
import Derived.Test.YtnpffnhiefgglaaGreatDoorParw14
import Derived.Test.YtnpffnhiefgglaaGreatDoorParw11
import Derived.Test.YtnpffnhiefgglaaGreatDoorParw20
import Derived.Test.YtnpffnhiefgglaaGreatDoorParw15
import Derived.Test.YtnpffnhiefgglaaGreatDoorParw18
import Derived.Lib.LaidTab
namespace Go.Proofs.YtnpffnhiefgglaaGreatDoor
open Go Go.Conc
set_option maxRecDepth 100000
def alsS : Als := ⟨fun f => [4, 5, 8, 9, 11, 12, 14, 15, 16, 18, 19, 20, 21, 22, 23, 24, 25, 26, 27, 30, 36, 37, 38, 39, 40, 41, 42, 43, 44, 45, 49, 50, 51, 52, 53, 54, 55, 56, 57, 60, 61, 62, 63, 64, 65, 67, 68, 69, 71, 73, 74, 75, 76, 77, 79, 80, 82, 83, 84, 85, 92, 93, 94, 95, 96, 97, 98, 99, 100, 101, 102, 103, 104, 105, 106, 107, 109, 110, 111, 112, 113, 114, 115, 116, 117, 118, 120, 121, 126, 127, 128, 129, 130, 131, 132, 133, 134, 135, 136, 137, 138, 139, 140, 141, 142, 143, 144, 145, 146, 147, 148, 149, 150, 151, 152, 153, 154, 155, 156, 157, 158, 159, 160, 161, 162, 163, 164, 175, 176, 177, 178, 179, 180, 182, 183, 184, 185, 186, 187, 188, 189, 190, 191, 192, 193, 194, 195, 196, 197, 198, 208, 209, 210, 211, 212, 213, 214, 215, 216, 217, 218, 219, 220, 221, 222, 223, 224, 225, 227, 228, 229, 230, 231].contains f, fun f t => (f == 96 && [9, 25, 33, 44].contains t) || (f == 130 && [2, 3].contains t) || (f == 131 && [5, 10, 15, 25].contains t) || (f == 175 && [6, 8, 13, 25].contains t) || (f == 177 && [5, 7, 12].contains t) || (f == 194 && [5, 21].contains t), fun f => [4, 5, 8, 49, 11, 38, 79, 50, 82].contains f, fun f => [130].contains f, fun f => [181, 226].contains f⟩
theorem lateS (f t : Nat) (h : 200 ≤ t) : alsS.f f t = false := by
  simp only [alsS, List.contains_cons, List.contains_nil, Bool.or_false, Bool.or_eq_false_iff, Bool.and_eq_false_iff, beq_eq_false_iff_ne]
  omega
theorem resS (f : Nat) (h : alsS.r f = true) : ∃ fn t, Tryz.prog.funcs[f]? = some fn ∧ fn.results = #[.tmp t] ∧ alsS.f f t = true := by
  simp [alsS] at h
  rcases h with rfl
  · exact ⟨_, 2, Tryz.func130, by kernel_rfl, by kernel_rfl⟩
theorem extS : ExtT Tryz.prog alsS := by
  intro f h args
  simp [alsS] at h
  rcases h with rfl | rfl
  · exact ext_one Tryz.func181 (by kernel_rfl) (by kernel_rfl) (by kernel_rfl) (e := fun args => do let (x, y, c) ← Extern.MathBitsCarry.three "Add64" args; pure (Extern.MathBitsCarry.pair ((x + y + c) % Extern.MathBitsCarry.m64) ((x + y + c) / Extern.MathBitsCarry.m64))) (by kernel_rfl) hush_add64 args
  · exact ext_one Tryz.func226 (by kernel_rfl) (by kernel_rfl) (by kernel_rfl) (e := Extern.BytealgMakeNoZero.makeNoZero Tryz.f226.params Tryz.f226.resultTypes) (by kernel_rfl) (hush_makeNoZero _ _) args
theorem tameAS : TameA Tryz.prog alsS := by
  refine ⟨fun f hf => ?_, by kernel_rfl, fun g hg => step_none (by kernel_rfl) hg, fun f _ h => resS f h, extS⟩
  simp only [alsS, List.contains_cons, List.contains_nil, Bool.or_false, Bool.or_eq_true, beq_iff_eq] at hf
  rcases hf with rfl | rfl | rfl | rfl | rfl | rfl | rfl | rfl | rfl | rfl | rfl | rfl | rfl | rfl | rfl | rfl | rfl | rfl | rfl | rfl | rfl | rfl | rfl | rfl | rfl | rfl | rfl | rfl | rfl | rfl | rfl | rfl | rfl | rfl | rfl | rfl | rfl | rfl | rfl | rfl | rfl | rfl | rfl | rfl | rfl | rfl | rfl | rfl | rfl | rfl | rfl | rfl | rfl | rfl | rfl | rfl | rfl | rfl | rfl | rfl | rfl | rfl | rfl | rfl | rfl | rfl | rfl | rfl | rfl | rfl | rfl | rfl | rfl | rfl | rfl | rfl | rfl | rfl | rfl | rfl | rfl | rfl | rfl | rfl | rfl | rfl | rfl | rfl | rfl | rfl | rfl | rfl | rfl | rfl | rfl | rfl | rfl | rfl | rfl | rfl | rfl | rfl | rfl | rfl | rfl | rfl | rfl | rfl | rfl | rfl | rfl | rfl | rfl | rfl | rfl | rfl | rfl | rfl | rfl | rfl | rfl | rfl | rfl | rfl | rfl | rfl | rfl | rfl | rfl | rfl | rfl | rfl | rfl | rfl | rfl | rfl | rfl | rfl | rfl | rfl | rfl | rfl | rfl | rfl | rfl | rfl | rfl | rfl | rfl | rfl | rfl | rfl | rfl | rfl | rfl | rfl | rfl | rfl | rfl | rfl | rfl | rfl | rfl | rfl | rfl | rfl | rfl | rfl | rfl | rfl | rfl | rfl | rfl
  · exact tameA_base Tryz.func4 (by kernel_rfl) (by decide) (by kernel_rfl) (lateS _)
  · exact tameA_base Tryz.func5 (by kernel_rfl) (by decide) (by kernel_rfl) (lateS _)
  · exact tameA_base Tryz.func8 (by kernel_rfl) (by decide) (by kernel_rfl) (lateS _)
  · exact tameA_one Tryz.func9 (by kernel_rfl) (by kernel_rfl) (lateS _)
  · exact tameA_base Tryz.func11 (by kernel_rfl) (by decide) (by kernel_rfl) (lateS _)
  · exact tameA_one Tryz.func12 (by kernel_rfl) (by kernel_rfl) (lateS _)
  · exact tameA_one Tryz.func14 (by kernel_rfl) (by kernel_rfl) (lateS _)
  · exact tameA_one Tryz.func15 (by kernel_rfl) (by kernel_rfl) (lateS _)
  · exact tameA_one Tryz.func16 (by kernel_rfl) (by kernel_rfl) (lateS _)
  · exact tameA_one Tryz.func18 (by kernel_rfl) (by kernel_rfl) (lateS _)
  · exact tameA_one Tryz.func19 (by kernel_rfl) (by kernel_rfl) (lateS _)
  · exact tameA_one Tryz.func20 (by kernel_rfl) (by kernel_rfl) (lateS _)
  · exact tameA_one Tryz.func21 (by kernel_rfl) (by kernel_rfl) (lateS _)
  · exact tameA_one Tryz.func22 (by kernel_rfl) (by kernel_rfl) (lateS _)
  · exact tameA_one Tryz.func23 (by kernel_rfl) (by kernel_rfl) (lateS _)
  · exact tameA_one Tryz.func24 (by kernel_rfl) (by kernel_rfl) (lateS _)
  · exact tameA_one Tryz.func25 (by kernel_rfl) (by kernel_rfl) (lateS _)
  · exact tameA_one Tryz.func26 (by kernel_rfl) (by kernel_rfl) (lateS _)
  · exact tameA_one Tryz.func27 (by kernel_rfl) (by kernel_rfl) (lateS _)
  · exact tameA_one Tryz.func30 (by kernel_rfl) (by kernel_rfl) (lateS _)
  · exact tameA_one Tryz.func36 (by kernel_rfl) (by kernel_rfl) (lateS _)
  · exact tameA_one Tryz.func37 (by kernel_rfl) (by kernel_rfl) (lateS _)
  · exact tameA_base Tryz.func38 (by kernel_rfl) (by decide) (by kernel_rfl) (lateS _)
  · exact tameA_one Tryz.func39 (by kernel_rfl) (by kernel_rfl) (lateS _)
  · exact tameA_one Tryz.func40 (by kernel_rfl) (by kernel_rfl) (lateS _)
  · exact tameA_one Tryz.func41 (by kernel_rfl) (by kernel_rfl) (lateS _)
  · exact tameA_one Tryz.func42 (by kernel_rfl) (by kernel_rfl) (lateS _)
  · exact tameA_one Tryz.func43 (by kernel_rfl) (by kernel_rfl) (lateS _)
  · exact tameA_one Tryz.func44 (by kernel_rfl) (by kernel_rfl) (lateS _)
  · exact tameA_one Tryz.func45 (by kernel_rfl) (by kernel_rfl) (lateS _)
  · exact tameA_base Tryz.func49 (by kernel_rfl) (by decide) (by kernel_rfl) (lateS _)
  · exact tameA_base Tryz.func50 (by kernel_rfl) (by decide) (by kernel_rfl) (lateS _)
  · exact tameA_one Tryz.func51 (by kernel_rfl) (by kernel_rfl) (lateS _)
  · exact tameA_one Tryz.func52 (by kernel_rfl) (by kernel_rfl) (lateS _)
  · exact tameA_one Tryz.func53 (by kernel_rfl) (by kernel_rfl) (lateS _)
  · exact tameA_one Tryz.func54 (by kernel_rfl) (by kernel_rfl) (lateS _)
  · exact tameA_one Tryz.func55 (by kernel_rfl) (by kernel_rfl) (lateS _)
  · exact tameA_one Tryz.func56 (by kernel_rfl) (by kernel_rfl) (lateS _)
  · exact tameA_one Tryz.func57 (by kernel_rfl) (by kernel_rfl) (lateS _)
  · exact tameA_one Tryz.func60 (by kernel_rfl) (by kernel_rfl) (lateS _)
  · exact tameA_one Tryz.func61 (by kernel_rfl) (by kernel_rfl) (lateS _)
  · exact tameA_one Tryz.func62 (by kernel_rfl) (by kernel_rfl) (lateS _)
  · exact tameA_one Tryz.func63 (by kernel_rfl) (by kernel_rfl) (lateS _)
  · exact tameA_one Tryz.func64 (by kernel_rfl) (by kernel_rfl) (lateS _)
  · exact tameA_one Tryz.func65 (by kernel_rfl) (by kernel_rfl) (lateS _)
  · exact tameA_one Tryz.func67 (by kernel_rfl) (by kernel_rfl) (lateS _)
  · exact tameA_one Tryz.func68 (by kernel_rfl) (by kernel_rfl) (lateS _)
  · exact tameA_one Tryz.func69 (by kernel_rfl) (by kernel_rfl) (lateS _)
  · exact tameA_one Tryz.func71 (by kernel_rfl) (by kernel_rfl) (lateS _)
  · exact tameA_one Tryz.func73 (by kernel_rfl) (by kernel_rfl) (lateS _)
  · exact tameA_one Tryz.func74 (by kernel_rfl) (by kernel_rfl) (lateS _)
  · exact tameA_one Tryz.func75 (by kernel_rfl) (by kernel_rfl) (lateS _)
  · exact tameA_one Tryz.func76 (by kernel_rfl) (by kernel_rfl) (lateS _)
  · exact tameA_one Tryz.func77 (by kernel_rfl) (by kernel_rfl) (lateS _)
  · exact tameA_base Tryz.func79 (by kernel_rfl) (by decide) (by kernel_rfl) (lateS _)
  · exact tameA_one Tryz.func80 (by kernel_rfl) (by kernel_rfl) (lateS _)
  · exact tameA_base Tryz.func82 (by kernel_rfl) (by decide) (by kernel_rfl) (lateS _)
  · exact tameA_one Tryz.func83 (by kernel_rfl) (by kernel_rfl) (lateS _)
  · exact tameA_one Tryz.func84 (by kernel_rfl) (by kernel_rfl) (lateS _)
  · exact tameA_one Tryz.func85 (by kernel_rfl) (by kernel_rfl) (lateS _)
  · exact tameA_one Tryz.func92 (by kernel_rfl) (by kernel_rfl) (lateS _)
  · exact tameA_one Tryz.func93 (by kernel_rfl) (by kernel_rfl) (lateS _)
  · exact tameA_one Tryz.func94 (by kernel_rfl) (by kernel_rfl) (lateS _)
  · exact tameA_one Tryz.func95 (by kernel_rfl) (by kernel_rfl) (lateS _)
  · exact tameA_one Tryz.func96 (by kernel_rfl) (by kernel_rfl) (lateS _)
  · exact tameA_one Tryz.func97 (by kernel_rfl) (by kernel_rfl) (lateS _)
  · exact tameA_one Tryz.func98 (by kernel_rfl) (by kernel_rfl) (lateS _)
  · exact tameA_one Tryz.func99 (by kernel_rfl) (by kernel_rfl) (lateS _)
  · exact tameA_one Tryz.func100 (by kernel_rfl) (by kernel_rfl) (lateS _)
  · exact tameA_one Tryz.func101 (by kernel_rfl) (by kernel_rfl) (lateS _)
  · exact tameA_one Tryz.func102 (by kernel_rfl) (by kernel_rfl) (lateS _)
  · exact tameA_one Tryz.func103 (by kernel_rfl) (by kernel_rfl) (lateS _)
  · exact tameA_one Tryz.func104 (by kernel_rfl) (by kernel_rfl) (lateS _)
  · exact tameA_one Tryz.func105 (by kernel_rfl) (by kernel_rfl) (lateS _)
  · exact tameA_one Tryz.func106 (by kernel_rfl) (by kernel_rfl) (lateS _)
  · exact tameA_one Tryz.func107 (by kernel_rfl) (by kernel_rfl) (lateS _)
  · exact tameA_one Tryz.func109 (by kernel_rfl) (by kernel_rfl) (lateS _)
  · exact tameA_one Tryz.func110 (by kernel_rfl) (by kernel_rfl) (lateS _)
  · exact tameA_one Tryz.func111 (by kernel_rfl) (by kernel_rfl) (lateS _)
  · exact tameA_one Tryz.func112 (by kernel_rfl) (by kernel_rfl) (lateS _)
  · exact tameA_one Tryz.func113 (by kernel_rfl) (by kernel_rfl) (lateS _)
  · exact tameA_one Tryz.func114 (by kernel_rfl) (by kernel_rfl) (lateS _)
  · exact tameA_one Tryz.func115 (by kernel_rfl) (by kernel_rfl) (lateS _)
  · exact tameA_one Tryz.func116 (by kernel_rfl) (by kernel_rfl) (lateS _)
  · exact tameA_one Tryz.func117 (by kernel_rfl) (by kernel_rfl) (lateS _)
  · exact tameA_one Tryz.func118 (by kernel_rfl) (by kernel_rfl) (lateS _)
  · exact tameA_one Tryz.func120 (by kernel_rfl) (by kernel_rfl) (lateS _)
  · exact tameA_one Tryz.func121 (by kernel_rfl) (by kernel_rfl) (lateS _)
  · exact tameA_one Tryz.func126 (by kernel_rfl) (by kernel_rfl) (lateS _)
  · exact tameA_one Tryz.func127 (by kernel_rfl) (by kernel_rfl) (lateS _)
  · exact tameA_one Tryz.func128 (by kernel_rfl) (by kernel_rfl) (lateS _)
  · exact tameA_one Tryz.func129 (by kernel_rfl) (by kernel_rfl) (lateS _)
  · exact tameA_one Tryz.func130 (by kernel_rfl) (by kernel_rfl) (lateS _)
  · exact tameA_one Tryz.func131 (by kernel_rfl) (by kernel_rfl) (lateS _)
  · exact tameA_one Tryz.func132 (by kernel_rfl) (by kernel_rfl) (lateS _)
  · exact tameA_one Tryz.func133 (by kernel_rfl) (by kernel_rfl) (lateS _)
  · exact tameA_one Tryz.func134 (by kernel_rfl) (by kernel_rfl) (lateS _)
  · exact tameA_one Tryz.func135 (by kernel_rfl) (by kernel_rfl) (lateS _)
  · exact tameA_one Tryz.func136 (by kernel_rfl) (by kernel_rfl) (lateS _)
  · exact tameA_one Tryz.func137 (by kernel_rfl) (by kernel_rfl) (lateS _)
  · exact tameA_one Tryz.func138 (by kernel_rfl) (by kernel_rfl) (lateS _)
  · exact tameA_one Tryz.func139 (by kernel_rfl) (by kernel_rfl) (lateS _)
  · exact tameA_one Tryz.func140 (by kernel_rfl) (by kernel_rfl) (lateS _)
  · exact tameA_one Tryz.func141 (by kernel_rfl) (by kernel_rfl) (lateS _)
  · exact tameA_one Tryz.func142 (by kernel_rfl) (by kernel_rfl) (lateS _)
  · exact tameA_one Tryz.func143 (by kernel_rfl) (by kernel_rfl) (lateS _)
  · exact tameA_one Tryz.func144 (by kernel_rfl) (by kernel_rfl) (lateS _)
  · exact tameA_one Tryz.func145 (by kernel_rfl) (by kernel_rfl) (lateS _)
  · exact tameA_one Tryz.func146 (by kernel_rfl) (by kernel_rfl) (lateS _)
  · exact tameA_one Tryz.func147 (by kernel_rfl) (by kernel_rfl) (lateS _)
  · exact tameA_one Tryz.func148 (by kernel_rfl) (by kernel_rfl) (lateS _)
  · exact tameA_one Tryz.func149 (by kernel_rfl) (by kernel_rfl) (lateS _)
  · exact tameA_one Tryz.func150 (by kernel_rfl) (by kernel_rfl) (lateS _)
  · exact tameA_one Tryz.func151 (by kernel_rfl) (by kernel_rfl) (lateS _)
  · exact tameA_one Tryz.func152 (by kernel_rfl) (by kernel_rfl) (lateS _)
  · exact tameA_one Tryz.func153 (by kernel_rfl) (by kernel_rfl) (lateS _)
  · exact tameA_one Tryz.func154 (by kernel_rfl) (by kernel_rfl) (lateS _)
  · exact tameA_one Tryz.func155 (by kernel_rfl) (by kernel_rfl) (lateS _)
  · exact tameA_one Tryz.func156 (by kernel_rfl) (by kernel_rfl) (lateS _)
  · exact tameA_one Tryz.func157 (by kernel_rfl) (by kernel_rfl) (lateS _)
  · exact tameA_one Tryz.func158 (by kernel_rfl) (by kernel_rfl) (lateS _)
  · exact tameA_one Tryz.func159 (by kernel_rfl) (by kernel_rfl) (lateS _)
  · exact tameA_one Tryz.func160 (by kernel_rfl) (by kernel_rfl) (lateS _)
  · exact tameA_one Tryz.func161 (by kernel_rfl) (by kernel_rfl) (lateS _)
  · exact tameA_one Tryz.func162 (by kernel_rfl) (by kernel_rfl) (lateS _)
  · exact tameA_one Tryz.func163 (by kernel_rfl) (by kernel_rfl) (lateS _)
  · exact tameA_one Tryz.func164 (by kernel_rfl) (by kernel_rfl) (lateS _)
  · exact tameA_one Tryz.func175 (by kernel_rfl) (by kernel_rfl) (lateS _)
  · exact tameA_one Tryz.func176 (by kernel_rfl) (by kernel_rfl) (lateS _)
  · exact tameA_one Tryz.func177 (by kernel_rfl) (by kernel_rfl) (lateS _)
  · exact tameA_one Tryz.func178 (by kernel_rfl) (by kernel_rfl) (lateS _)
  · exact tameA_one Tryz.func179 (by kernel_rfl) (by kernel_rfl) (lateS _)
  · exact tameA_one Tryz.func180 (by kernel_rfl) (by kernel_rfl) (lateS _)
  · exact tameA_one Tryz.func182 (by kernel_rfl) (by kernel_rfl) (lateS _)
  · exact tameA_one Tryz.func183 (by kernel_rfl) (by kernel_rfl) (lateS _)
  · exact tameA_one Tryz.func184 (by kernel_rfl) (by kernel_rfl) (lateS _)
  · exact tameA_one Tryz.func185 (by kernel_rfl) (by kernel_rfl) (lateS _)
  · exact tameA_one Tryz.func186 (by kernel_rfl) (by kernel_rfl) (lateS _)
  · exact tameA_one Tryz.func187 (by kernel_rfl) (by kernel_rfl) (lateS _)
  · exact tameA_one Tryz.func188 (by kernel_rfl) (by kernel_rfl) (lateS _)
  · exact tameA_one Tryz.func189 (by kernel_rfl) (by kernel_rfl) (lateS _)
  · exact tameA_one Tryz.func190 (by kernel_rfl) (by kernel_rfl) (lateS _)
  · exact tameA_one Tryz.func191 (by kernel_rfl) (by kernel_rfl) (lateS _)
  · exact tameA_one Tryz.func192 (by kernel_rfl) (by kernel_rfl) (lateS _)
  · exact tameA_one Tryz.func193 (by kernel_rfl) (by kernel_rfl) (lateS _)
  · exact tameA_one Tryz.func194 (by kernel_rfl) (by kernel_rfl) (lateS _)
  · exact tameA_one Tryz.func195 (by kernel_rfl) (by kernel_rfl) (lateS _)
  · exact tameA_one Tryz.func196 (by kernel_rfl) (by kernel_rfl) (lateS _)
  · exact tameA_one Tryz.func197 (by kernel_rfl) (by kernel_rfl) (lateS _)
  · exact tameA_one Tryz.func198 (by kernel_rfl) (by kernel_rfl) (lateS _)
  · exact tameA_one Tryz.func208 (by kernel_rfl) (by kernel_rfl) (lateS _)
  · exact tameA_one Tryz.func209 (by kernel_rfl) (by kernel_rfl) (lateS _)
  · exact tameA_one Tryz.func210 (by kernel_rfl) (by kernel_rfl) (lateS _)
  · exact tameA_one Tryz.func211 (by kernel_rfl) (by kernel_rfl) (lateS _)
  · exact tameA_one Tryz.func212 (by kernel_rfl) (by kernel_rfl) (lateS _)
  · exact tameA_one Tryz.func213 (by kernel_rfl) (by kernel_rfl) (lateS _)
  · exact tameA_one Tryz.func214 (by kernel_rfl) (by kernel_rfl) (lateS _)
  · exact tameA_one Tryz.func215 (by kernel_rfl) (by kernel_rfl) (lateS _)
  · exact tameA_one Tryz.func216 (by kernel_rfl) (by kernel_rfl) (lateS _)
  · exact tameA_one Tryz.func217 (by kernel_rfl) (by kernel_rfl) (lateS _)
  · exact tameA_one Tryz.func218 (by kernel_rfl) (by kernel_rfl) (lateS _)
  · exact tameA_one Tryz.func219 (by kernel_rfl) (by kernel_rfl) (lateS _)
  · exact tameA_one Tryz.func220 (by kernel_rfl) (by kernel_rfl) (lateS _)
  · exact tameA_one Tryz.func221 (by kernel_rfl) (by kernel_rfl) (lateS _)
  · exact tameA_one Tryz.func222 (by kernel_rfl) (by kernel_rfl) (lateS _)
  · exact tameA_one Tryz.func223 (by kernel_rfl) (by kernel_rfl) (lateS _)
  · exact tameA_one Tryz.func224 (by kernel_rfl) (by kernel_rfl) (lateS _)
  · exact tameA_one Tryz.func225 (by kernel_rfl) (by kernel_rfl) (lateS _)
  · exact tameA_one Tryz.func227 (by kernel_rfl) (by kernel_rfl) (lateS _)
  · exact tameA_one Tryz.func228 (by kernel_rfl) (by kernel_rfl) (lateS _)
  · exact tameA_one Tryz.func229 (by kernel_rfl) (by kernel_rfl) (lateS _)
  · exact tameA_one Tryz.func230 (by kernel_rfl) (by kernel_rfl) (lateS _)
  · exact tameA_one Tryz.func231 (by kernel_rfl) (by kernel_rfl) (lateS _)
end Go.Proofs.YtnpffnhiefgglaaGreatDoor
namespace Go.Proofs.YtnpffnhiefgglaaGreatDoor
open Go Go.Conc Go.RowKit
set_option maxRecDepth 100000
theorem BytesT.into {w : World} {p : Option Addr} {n c : Nat} {xs : List Int} (h : BytesT w p n c xs) : BytesIn w p n xs := fun h0 => by
  obtain ⟨b, o, e, hc⟩ := h.lies h0
  have := h.len
  exact ⟨b, o, e, fun i hi => hc i _ (by rw [List.getD_eq_getElem?_getD, List.getElem?_eq_getElem (by omega)]; rfl)⟩
theorem BytesT.keeps {w w1 : World} {p : Option Addr} {n c : Nat} {xs : List Int} (h : BytesT w p n c xs) (hk : ∀ b, b < w.heap.size → w1.heap[b]? = w.heap[b]?) : BytesT w1 p n c xs := ⟨h.len, h.cap, h.low, fun h0 => by
  obtain ⟨b, o, e, hb, hc⟩ := h.at h0
  refine ⟨b, o, e, fun j u hj => ?_⟩
  have := hc j u hj
  simp only [World.cell?] at this ⊢
  rw [hk b hb]
  exact this⟩
def seaL (KS NS AS BS : List Int) : List Int := strT KS 1 NS BS ++ stL KS NS AS (strT KS 1 NS BS)
theorem strT_length (KS : List Int) (ct : Int) (NS BS : List Int) : (strT KS ct NS BS).length = BS.length := by
  unfold strT
  rw [outR_length]
  omega
theorem xorT_byte : ∀ {xs ys : List Int}, ∀ x ∈ xorL xs ys, 0 ≤ x ∧ x < 256
  | [], _ => fun x h => by simp [xorL] at h
  | _ :: _, [] => fun x h => by simp [xorL] at h
  | x :: xs, y :: ys => fun z h => by
    rcases List.mem_cons.1 (show z ∈ bits .xor .u8 x y :: xorL xs ys from h) with rfl | h
    · simp only [bits, IntKind.wrap, IntKind.bits, IntKind.signed]
      exact ⟨by simp; omega, by simp; omega⟩
    · exact xorT_byte z h
theorem outR_byte (BS : List Int) (bs : Nat → Nat → Int) (i : Nat) : ∀ x ∈ outR BS bs i, 0 ≤ x ∧ x < 256 := by
  induction i with
  | zero => exact fun x h => by cases h
  | succ i ih =>
    intro x h
    rw [outR] at h
    exact (List.mem_append.1 h).elim (ih x) (xorT_byte x)
theorem strT_byte (KS : List Int) (ct : Int) (NS BS : List Int) : ∀ x ∈ strT KS ct NS BS, 0 ≤ x ∧ x < 256 := outR_byte _ _ _
theorem cap_le (n ans : Nat) (h : n < 9223372036854775808) : capN n ans ≤ maxLen := by
  have : ans % (2 ^ 63 - n) < 2 ^ 63 - n := Nat.mod_lt _ (by omega)
  show n + ans % (2 ^ 63 - n) ≤ 2 ^ 63 - 1
  omega
def SealTo (kn nn an bn : Nat) (KS NS AS BS : List Int) (c : Frame) (cs : List Frame) (w : World) (g1 : Goroutine) (w1 : World) : Prop :=
  Lay w w1 ∧ ((¬ SizesOk kn nn an bn ∧ g1 = G (c.finish (.tuple #[.slice none 0 0, .bool false])) cs) ∨ (SizesOk kn nn an bn ∧ ∃ γ rc, w.heap.size ≤ γ ∧ bn + 16 ≤ rc ∧ rc ≤ maxLen ∧ g1 = G (c.finish (.tuple #[.slice (some ⟨γ, 0, none⟩) (bn + 16) rc, .bool true])) cs ∧ w1.heap[γ]? = some (.cells ((seaL KS NS AS BS).map (Value.int .u8) ++ zerV (rc - (bn + 16))).toArray 5 (0, 0))))
set_option maxHeartbeats 4000000 in
theorem seal_bes (kp np ap bp : Option Addr) (kn kc nn nc an ac bn bc : Nat) (KS NS AS BS : List Int) (c : Frame) (cs : List Frame) (C : Array Value) (e : TypeId) (w : World) (hK : BytesT w kp kn kc KS) (hN : BytesT w np nn nc NS) (hA : BytesT w ap an ac AS) (hB : BytesT w bp bn bc BS)
    (hT : TableIn C e w) (hC : ∀ v ∈ C, flatC v = true) (hCp : ∀ (j : Nat) v, placesC[j]? = some v → C[j]? = some v) (hG : CellsTo Tryz.prog.globals.size w) :
    Bes Tryz.prog (SealTo kn nn an bn KS NS AS BS c cs w) (G (Frame.enter Tryz.prog 38 #[.slice kp kn kc, .slice np nn nc, .slice ap an ac, .slice bp bn bc] .normal) (c :: cs)) w := by
  refine (Bes.of_co (Sh := fun _ => False) (M := fun b => b < w.heap.size) (Stop := fun _ g w2 => Lay w w2 ∧ ((¬ SizesOk kn nn an bn ∧ g = G (c.finish (.tuple #[.slice none 0 0, .bool false])) cs) ∨ (SizesOk kn nn an bn ∧ ∃ R O, w.heap.size ≤ R ∧ R < O ∧ O < w2.heap.size ∧ w2.heap[R]? = some (.cells #[.slice none 0 0] 22 (0, 0)) ∧ w2.heap[O]? = some (.cells #[.bool false] 4 (0, 0)) ∧
      g = G (Frame.enter Tryz.prog 72 #[.slice kp kn kc, .int .i64 1, .slice np nn nc, .slice bp bn bc] .normal) (strE (.slice kp kn kc) (.slice np nn nc) (.slice ap an ac) bp bn bc R O undef [3, 4] :: c :: cs))))
    (seal_first kp np ap bp kn kc nn nc an ac bn bc c cs (fun b h => h) (fun b h => h.elim) (fun w2 M' hno hk hM hM' hlow => .stop fun w3 hk3 => ⟨⟨fun b hb => (hk3.heap b (hM b hb)).trans (hk.heap b hb), Nat.le_trans hk.size hk3.size, hk3.os.trans hk.os, hk3.output.trans hk.output, hk3.tape.trans hk.tape⟩, .inl ⟨hno, rfl⟩⟩)
      (fun w2 R O hok hk hR hRO hO hRc hOc => .stop fun w3 hk3 => ⟨⟨fun b hb => (hk3.heap b (.inl (.inl hb))).trans (hk.heap b hb), Nat.le_trans hk.size hk3.size, hk3.os.trans hk.os, hk3.output.trans hk.output, hk3.tape.trans hk.tape⟩, .inr ⟨hok, R, O, hR, hRO, Nat.lt_of_lt_of_le hO hk3.size, (hk3.heap R (.inl (.inr rfl))).trans hRc, (hk3.heap O (.inr rfl)).trans hOc, rfl⟩⟩))
    (fun b h => h) fun _ g w2 h _ => h).bind fun g w2 ⟨hl2, h⟩ => ?_
  rcases h with ⟨hno, rfl⟩ | ⟨hok, R, O, hR, hRO, hO, hRc, hOc, rfl⟩
  · exact .now ⟨hl2, .inl ⟨hno, rfl⟩⟩
  obtain ⟨rfl, rfl, han, _, hbn⟩ := hok
  have hbn' : bn ≤ 1500 := by omega
  have hok : SizesOk 32 12 an bn := ⟨rfl, rfl, han, by omega, hbn⟩
  have hT2 : TableIn C e w2 := by
    obtain ⟨lo, hi, h1, h2⟩ := hT
    exact ⟨lo, hi, (hl2.heap _ (Array.getElem?_eq_some_iff.1 h1).1).trans h1, h2⟩
  refine (stream_bes kp np bp 32 kc 12 nc bn bc 1 KS NS BS _ (c :: cs) C e w2 (hK.keeps hl2.heap) (hN.keeps hl2.heap) (hB.keeps hl2.heap) (by decide) hT2 hC hCp).bind fun g w3 ⟨v', hg, hl3, h⟩ => ?_
  have hgood : GoodT 32 12 bn 1 := ⟨rfl, rfl, by omega, by omega, by omega⟩
  rcases h with ⟨hn, _⟩ | ⟨_, τ, rfl, hτ, hτc⟩
  · exact absurd hgood hn
  subst hg
  have hl23 : Lay w w3 := hl2.on hl3
  have z2 := hl2.size
  have z3 := hl3.size
  have hRlt : R < w2.heap.size := by omega
  have hRc3 := (hl3.heap R hRlt).trans hRc
  have hOc3 := (hl3.heap O hO).trans hOc
  have hτlt : τ < w3.heap.size := (Array.getElem?_eq_some_iff.1 hτc).1
  refine (Bes.of_co (Sh := fun _ => False) (M := fun b => b < w3.heap.size) (Stop := fun _ g w4 => Lay w3 w4 ∧ g = G (Frame.enter Tryz.prog 73 #[.slice kp 32 kc, .slice np 12 nc, .slice ap an ac, .slice (some ⟨τ, 0, none⟩) bn bn] .normal) (tagE (.slice kp 32 kc) (.slice np 12 nc) (.slice ap an ac) bp bn bc R O (.slice (some ⟨τ, 0, none⟩) bn bn) undef [5, 6, 7, 8, 9] :: c :: cs))
    (seal_second _ _ _ bp bn bc R O _ (c :: cs) (.stop fun w4 hk4 => ⟨hk4, rfl⟩)) (fun b h => h) fun _ g w4 h _ => h).bind fun g w4 ⟨hl4, hg⟩ => ?_
  subst hg
  have hl34 : Lay w w4 := hl23.on hl4
  have z4 := hl4.size
  have hP : ∀ {w' : World}, Lay w w' → PlacesIs w' := fun {w'} hl => by
    obtain ⟨lo, hi, h1, h2⟩ := hT
    have h3 := (hl.heap _ (Array.getElem?_eq_some_iff.1 h1).1).trans h1
    intro j v hv
    simp only [World.cell?, h3, Option.isSome_none, Bool.false_eq_true, if_false, Nat.zero_add]
    exact hCp j v hv
  obtain ⟨ST, hST⟩ : ∃ ST, ST = strT KS 1 NS BS := ⟨_, rfl⟩
  have hSTl : ST.length = bn := by rw [hST, strT_length]; exact hB.len
  have hSTb : ∀ x ∈ ST, 0 ≤ x ∧ x < 256 := fun x hx => strT_byte _ _ _ _ x (hST ▸ hx)
  have rowIn : ∀ {w' : World}, w'.heap[τ]? = some (.cells (ST.map (Value.int .u8)).toArray 5 (0, 0)) → BytesIn w' (some ⟨τ, 0, none⟩) bn ST := fun {w'} h _ => ⟨τ, 0, rfl, fun i hi => by
    have hi' : i < ST.length := by omega
    simp only [World.cell?, h, Option.isSome_none, Bool.false_eq_true, if_false, Nat.zero_add, List.getElem?_toArray, List.getElem?_map, List.getElem?_eq_getElem hi', Option.map_some, List.getD_eq_getElem?_getD, Option.getD_some]⟩
  rw [← hST] at hτc
  have hτc4 := (hl4.heap τ hτlt).trans hτc
  refine (Bes.lone (Post := fun v w1 => ∃ p' c', v = .slice p' 16 c' ∧ BytesIn w1 p' 16 (stL KS NS AS ST) ∧ Below w4.heap.size w4 { w1 with tape := w4.tape }) tameAS (by decide) (by decide) (by intro t _ _; simp [alsS]) (cells_keeps hG hl34.heap) fun θ => ?_).bind fun g w5 h => ?_
  · have h1 := sealTag_any kp np ap (some ⟨τ, 0, none⟩) kc nc an ac bn bn KS NS AS ST (World.ret w4 θ) hK.len hN.len hA.len hSTl (by omega) (by omega) (hK.keeps hl34.heap).into (hN.keeps hl34.heap).into (hA.keeps hl34.heap).into (rowIn hτc4) hK.low hN.low hA.low hSTb hK.cap hN.cap (hP (w' := w4) hl34)
    have hle : ttN an bn ≤ 4000 := by
      have := fillN_lt an
      have := fillN_lt bn
      unfold ttN
      omega
    have h16 : tagN 32 (ttN an bn) = 16 := if_pos ⟨rfl, hle⟩
    rw [h16] at h1
    refine h1.mono fun ex w1 ⟨p', c', h2, h3, h4⟩ => ⟨_, h2, p', c', rfl, h3.bytes, ⟨h4.os, rfl, h4.output, h4.size, h4.block⟩⟩
  obtain ⟨v, τ5, d5, rfl, ⟨p', c', rfl, hb5, hbel⟩, hG5, hz5, ht5⟩ := h
  have hl45 : Lay w4 w5 := ⟨hbel.block, hz5, hbel.os, hbel.output, ht5⟩
  have hb5' : BytesIn w5 p' 16 (stL KS NS AS ST) := hb5
  have hl35 : Lay w w5 := hl34.on hl45
  have hstl : (stL KS NS AS ST).length = 16 := by
    unfold stL
    have h32 : ((blkL KS 0 NS).take 32).length = 32 := by
      rw [List.length_take, blkL_length, hK.len, hN.len]
      decide
    rw [tagL_length, h32, ttL_length, hA.len, hSTl]
    refine if_pos ⟨rfl, ?_⟩
    have := fillN_lt an
    have := fillN_lt bn
    unfold ttN
    omega
  refine (Bes.of_co (Sh := fun _ => False) (M := fun b => b < w5.heap.size) (Stop := fun _ g w6 => Lay w5 w6 ∧ ∃ β, w5.heap.size ≤ β ∧ w6.heap[β]? = some (.cells #[.slice (some ⟨τ, 0, none⟩) bn bn, .slice p' 16 c'] 22 (0, 0)) ∧
      g = G (Frame.enter Tryz.prog 68 #[.slice (some ⟨β, 0, none⟩) 2 2] .normal) (catE (.slice kp 32 kc) (.slice np 12 nc) (.slice ap an ac) bp bn bc R O (.slice (some ⟨τ, 0, none⟩) bn bn) (.slice p' 16 c') β undef [7, 8, 9] :: c :: cs))
    (seal_third _ _ _ bp bn bc R O (some ⟨τ, 0, none⟩) p' bn bn 16 c' (c :: cs) (fun b h => h) (fun w1 hk1 => .stop fun w6 hk6 => ⟨⟨fun b hb => ?_, ?_, hk6.os.trans hk1.os, hk6.output.trans hk1.output, hk6.tape.trans hk1.tape⟩, w1.heap.size, hk1.size, (hk6.heap _ (.inr rfl)).trans ?_, rfl⟩)) (fun b h => h) fun _ g w6 h _ => h).bind fun g w6 ⟨hl6, β, hβ, hβc, hg⟩ => ?_
  · have hb1 : b < w1.heap.size := Nat.lt_of_lt_of_le hb hk1.size
    rw [hk6.heap b (.inl hb), ← hk1.heap b hb]
    show (w1.heap.push _)[b]? = _
    rw [Array.getElem?_push_lt hb1, ← Array.getElem?_eq_getElem hb1]
  · have h1 := hk6.size
    have h2 : (w1.heap.push (.cells #[.slice (some ⟨τ, 0, none⟩) bn bn, .slice p' 16 c'] 22)).size = w1.heap.size + 1 := by simp
    have h3 := hk1.size
    have h4 : w1.heap.size + 1 ≤ w6.heap.size := h2 ▸ h1
    omega
  · show (w1.heap.push _)[w1.heap.size]? = _
    simp
  subst hg
  have hl36 : Lay w w6 := hl35.on hl6
  have z6 := hl6.size
  have hτc6 : w6.heap[τ]? = some (.cells (ST.map (Value.int .u8)).toArray 5 (0, 0)) := (hl6.heap τ (by omega)).trans ((hl45.heap τ (by omega)).trans hτc4)
  have hin6 : BytesIn w6 p' 16 (stL KS NS AS ST) := fun h0 => by
    obtain ⟨b, o, hp, hc⟩ := hb5' h0
    refine ⟨b, o, hp, fun i hi => ?_⟩
    have h1 := hc i hi
    have h2 := World.block_lt_of_cell? _ _ h1
    simp only [World.cell?] at h1 ⊢
    rw [hl6.heap b h2]
    exact h1
  obtain ⟨ROW, hROW⟩ : ∃ ROW, ROW = seaL KS NS AS BS := ⟨_, rfl⟩
  have hsea : ROW = ST ++ stL KS NS AS ST := by rw [hROW, hST]; rfl
  refine (Bes.lone (Post := fun v w1 => ∃ rc, v = .slice (some ⟨w6.heap.size, 0, none⟩) (bn + 16) rc ∧ bn + 16 ≤ rc ∧ rc ≤ maxLen ∧ w1.heap[w6.heap.size]? = some (.cells (ROW.map (Value.int .u8) ++ zerV (rc - (bn + 16))).toArray 5 (0, 0)) ∧ Below w6.heap.size w6 { w1 with tape := w6.tape }) tameAS (by decide) (by decide) (by intro t _ _; simp [alsS]) (cells_keeps hG hl36.heap) fun θ => ?_).bind fun g w7 h => ?_
  · have h1 := concat_cap β 2 (fun k => if k = 0 then some ⟨τ, 0, none⟩ else p') (fun k => if k = 0 then bn else 16) (fun k => if k = 0 then bn else c') (fun k => if k = 0 then ST else stL KS NS AS ST) (World.ret w6 θ) (by omega)
      (fun k hk => by
        have hc : (World.ret w6 θ).heap[β]? = some (.cells #[.slice (some ⟨τ, 0, none⟩) bn bn, .slice p' 16 c'] 22 (0, 0)) := hβc
        match k, hk with
        | 0, _ => simp [World.cell?, hc]
        | 1, _ => simp [World.cell?, hc])
      (fun k hk => by match k, hk with | 0, _ => exact hSTl | 1, _ => exact hstl)
      (fun k hk => by match k, hk with | 0, _ => exact rowIn hτc6 | 1, _ => exact hin6)
      (by simp [sumN]) (by simp [sumN]; omega)
    have e1 : sumN (fun k => if k = 0 then bn else 16) 2 = bn + 16 := by simp [sumN]
    have e2 : catL (fun k => if k = 0 then ST else stL KS NS AS ST) 2 = ROW := by rw [hsea]; simp [catL]
    rw [e1, e2] at h1
    exact h1.mono fun ex w1 ⟨ans, h2, h3, h4, h5⟩ => ⟨_, h2, _, rfl, h3, cap_le _ _ (by omega), h4, ⟨h5.os, rfl, h5.output, h5.size, h5.block⟩⟩
  obtain ⟨v, τ7, d7, rfl, ⟨rc, rfl, hrc, hrcm, hrow, hbel7⟩, _, hz7, ht7⟩ := h
  have hl67 : Lay w6 w7 := ⟨hbel7.block, hz7, hbel7.os, hbel7.output, ht7⟩
  have hl37 : Lay w w7 := hl36.on hl67
  have hrow' : w7.heap[w6.heap.size]? = some (.cells (ROW.map (Value.int .u8) ++ zerV (rc - (bn + 16))).toArray 5 (0, 0)) := hrow
  have hl47 : Lay w3 w7 := ((hl4.on hl45).on hl6).on hl67
  have hγlt : w6.heap.size < w7.heap.size := (Array.getElem?_eq_some_iff.1 hrow').1
  refine Bes.of_co (Sh := fun _ => False) (M := fun b => b < w7.heap.size) (Stop := fun _ g w9 => SealTo 32 12 an bn KS NS AS BS c cs w g w9)
    (seal_fourth _ _ _ bp bn bc R O _ _ β w6.heap.size (bn + 16) rc _ _ _ c cs hrow' (fun v hv => ?_) ((hl47.heap R (by omega)).trans hRc3) ((hl47.heap O (by omega)).trans hOc3) (by omega) (by omega) (by omega) (by omega) (by omega) hγlt (fun b h => h.elim) (fun b h => h.elim) (fun b h => h)
      (fun w8 hk8 hz8 hos8 hout8 htp8 => .stop fun w9 hk9 => ⟨⟨fun b hb => ?_, ?_, hk9.os.trans (hos8.trans hl37.os), hk9.output.trans (hout8.trans hl37.output), hk9.tape.trans (htp8.trans hl37.tape)⟩, .inr ⟨hok, w6.heap.size, rc, by omega, hrc, hrcm, rfl, ?_⟩⟩)) (fun b h => h) fun _ g w9 h _ => h
  · rw [List.mem_toArray, List.mem_append] at hv
    rcases hv with hv | hv
    · obtain ⟨x, _, rfl⟩ := List.mem_map.1 hv
      rfl
    · rw [(List.mem_replicate.1 hv).2]
      rfl
  · have h7 : b < w7.heap.size := Nat.lt_of_lt_of_le hb hl37.size
    rw [hk9.heap b h7, hk8 b h7 (by omega) (by omega)]
    exact hl37.heap b hb
  · have h1 := hk9.size
    have h2 := hl37.size
    omega
  · rw [hk9.heap _ hγlt, hk8 _ hγlt (by omega) (by omega), ← hROW]
    exact hrow'
end Go.Proofs.YtnpffnhiefgglaaGreatDoor
namespace Go.Proofs.YtnpffnhiefgglaaGreatDoor
open Go.RowKit
set_option maxRecDepth 100000
theorem below_drewS {a w : World} (h : Below a.heap.size a w) : Below a.heap.size a w.drew := h.drew
set_option maxHeartbeats 4000000 in
theorem l7Tag_any (kp np ap sp : Option Addr) (kc nc an ac sn sc : Nat) (ks ns es ss : List Int) (w : World) (hk : ks.length = 32) (hn : ns.length = 12) (ha : es.length = an) (hs : ss.length = sn) (han : an ≤ 1048576) (hsn : sn ≤ 1048576) (ik : BytesIn w kp 32 ks) (im : BytesIn w np 12 ns) (ia : BytesIn w ap an es) (is : BytesIn w sp sn ss)
    (bk : ∀ x ∈ ks, 0 ≤ x ∧ x < 256) (bn : ∀ x ∈ ns, 0 ≤ x ∧ x < 256) (ba : ∀ x ∈ es, 0 ≤ x ∧ x < 256) (bs : ∀ x ∈ ss, 0 ≤ x ∧ x < 256) :
    Calls Tryz.prog 77 #[.slice kp 32 kc, .slice np 12 nc, .slice ap an ac, .slice sp sn sc] w fun e w' => ∃ p' c', e = .returned (.slice p' (tagN 32 (ttN an sn)) c') ∧ Own 5 w' w.heap.size w'.heap.size (.slice p' (tagN 32 (ttN an sn)) c') (tagN 32 (ttN an sn)) (stL ks ns es ss) ∧ Below w.heap.size w w' := by
  unfold stL
  have C1 := fun X (hX : Below w.heap.size w X) => specBlk_any kp np 32 12 kc nc 0 ks ns X hk hn (in_below ik hX) (in_below im hX) bk bn
  have e64 : blkN 32 12 0 = 64 := by decide
  have hbl : (blkL ks 0 ns).length = 64 := by rw [blkL_length, hk, hn, e64]
  have hbb : ∀ x ∈ blkL ks 0 ns, 0 ≤ x ∧ x < 256 := blkL_byte ks 0 ns
  simp only [e64] at C1
  have C2 := fun X (hX : Below w.heap.size w X) => specTagText_any ap sp an sn ac sc es ss X han hsn ha hs (in_below ia hX) (in_below is hX)
  have htl : (ttL es ss).length = ttN an sn := by rw [ttL_length, ha, hs]
  have htb := ttL_byte ba bs
  generalize blkL ks 0 ns = BL at C1 hbl hbb ⊢
  generalize ttL es ss = TL at C2 htl htb ⊢
  generalize ttN an sn = TN at C2 htl ⊢
  obtain ⟨A, hA⟩ : ∃ A, A = BL.take 32 := ⟨_, rfl⟩
  have hAl : A.length = 32 := by rw [hA, List.length_take, hbl]; rfl
  have hAb : ∀ x ∈ A, 0 ≤ x ∧ x < 256 := fun x hx => hbb x (List.mem_of_mem_take (hA ▸ hx))
  rw [← hA]
  have HA : Hid (A = BL.take 32) := hA
  clear ik im ia is bk bn ba bs hk hn ha hs e64 hA hbb hbl han hsn
  go_enter Tryz.func77, Tryz.ntmps77
  go_wp2_with (fail)
  go_region_held3 (fun _ => True) (trivial) (first
    | (go_at_call 115; refine (C1 _ (by repeat (with_reducible (first | exact Below.refl _ _ | refine below_drewS ?_ | refine below_on ?_ bb)))).mono ?_; rintro e wa ⟨p1, c1, rfl, ra, ba⟩; have hc1 := ra.cap; have ra1 := ra.take (k := 32) (by omega); rw [← HA.out] at ra1; obtain ⟨g, o, rfl, _⟩ := ra.bytes (by omega); have hc2 : (32 : Int) ≤ (c1 : Int) := by omega)
    | (go_at_call 118; refine (C2 _ (by repeat (with_reducible (first | exact Below.refl _ _ | refine below_drewS ?_ | refine below_on ?_ ba)))).mono ?_; rintro e wb ⟨p2, c2, rfl, rb, bb⟩)
    | (go_at_call 117; refine (specTag_any (some ⟨g, o, none⟩) p2 32 TN c1 c2 A TL _ hAl htl (in_below ra1.bytes (by repeat (with_reducible (first | exact Below.refl _ _ | refine below_drewS ?_ | refine below_on ?_ bb)))) (in_below rb.bytes (by repeat (with_reducible (first | exact Below.refl _ _ | refine below_drewS ?_ | refine below_on ?_ ba)))) hAb htb (by omega) rb.cap).mono ?_; rintro e wc ⟨p3, c3, rfl, rc, bc⟩))
  all_goals
    go_wp2
    go_ret
    first
      | exact ⟨_, _, rfl, ⟨owns_mono rc.1 (below_on (below_on (below_drewS (Below.refl _ _)) ba) bb).size, rc.2⟩, below_on (below_on (below_on (below_drewS (Below.refl _ _)) ba) bb) bc⟩
      | exact ⟨_, _, rfl, ⟨owns_mono rc.1 (below_on (below_on (below_drewS (Below.refl _ _)) bb) ba).size, rc.2⟩, below_on (below_on (below_on (below_drewS (Below.refl _ _)) bb) ba) bc⟩
theorem sea_length {KS NS AS BS : List Int} {an bn : Nat} (hK : KS.length = 32) (hN : NS.length = 12) (hA : AS.length = an) (hB : BS.length = bn) (han : an ≤ 1500) (hbn : bn ≤ 1500) : (stL KS NS AS (strT KS 1 NS BS)).length = 16 := by
  unfold stL
  have h32 : ((blkL KS 0 NS).take 32).length = 32 := by
    rw [List.length_take, blkL_length, hK, hN]
    decide
  rw [tagL_length, h32, ttL_length, hA, strT_length, hB]
  refine if_pos ⟨rfl, ?_⟩
  have := fillN_lt an
  have := fillN_lt bn
  unfold ttN
  omega
set_option maxHeartbeats 4000000 in
theorem specSeal_yes (kp np ap bp : Option Addr) (kc nc an ac bn bc : Nat) (KS NS AS BS : List Int) (w : World) (hK : KS.length = 32) (hN : NS.length = 12) (hA : AS.length = an) (hB : BS.length = bn) (han : an ≤ 1500) (hbn : bn ≤ 1500) (hbc : bn ≤ bc) (ik : BytesIn w kp 32 KS) (im : BytesIn w np 12 NS) (ia : BytesIn w ap an AS) (ib : BytesIn w bp bn BS)
    (bk : ∀ x ∈ KS, 0 ≤ x ∧ x < 256) (bm : ∀ x ∈ NS, 0 ≤ x ∧ x < 256) (ba : ∀ x ∈ AS, 0 ≤ x ∧ x < 256) :
    Calls Tryz.prog 44 #[.slice kp 32 kc, .slice np 12 nc, .slice ap an ac, .slice bp bn bc] w fun e w' => ∃ p' c', e = .returned (.tuple #[.slice p' (bn + 16) c', .bool true]) ∧ Own 5 w' w.heap.size w'.heap.size (.slice p' (bn + 16) c') (bn + 16) (seaL KS NS AS BS) ∧ Below w.heap.size w w' := by
  obtain ⟨i0, hi, hz0, hz1, hz2⟩ := info_parts infoByte
  have hgood : GoodT KS.length NS.length BS.length 1 := ⟨hK, hN, by omega, by omega, by omega⟩
  have C1 := specStr_any kp np bp 32 12 bn kc nc bc 1 KS NS BS w hbc hK hN hB ik im ib bk bm
  rw [good_ok hgood] at C1
  have hsl := sea_length hK hN hA hB han hbn
  have hle : ttN an bn ≤ 4000 := by
    have := fillN_lt an
    have := fillN_lt bn
    unfold ttN
    omega
  have h16 : tagN 32 (ttN an bn) = 16 := if_pos ⟨rfl, hle⟩
  have HS : Hid (seaL KS NS AS BS = strT KS 1 NS BS ++ stL KS NS AS (strT KS 1 NS BS)) := rfl
  have C2 := fun (p : Option Addr) (c : Nat) (X : World) (hX : Below w.heap.size w X) (hp : BytesIn X p bn (strT KS 1 NS BS)) => l7Tag_any kp np ap p kc nc an ac bn c KS NS AS (strT KS 1 NS BS) X hK hN hA (by rw [strT_length]; exact hB) (by omega) (by omega) (in_below ik hX) (in_below im hX) (in_below ia hX) hp bk bm ba (strT_byte _ _ _ _)
  simp only [h16] at C2
  have hTl : (strT KS 1 NS BS).length = bn := by rw [strT_length]; exact hB
  generalize seaL KS NS AS BS = RR at HS ⊢
  generalize stL KS NS AS (strT KS 1 NS BS) = TT at C2 HS hsl
  generalize strT KS 1 NS BS = ST at C1 C2 HS hTl
  clear ik im ia ib bk bm ba hgood hle h16 hK hN hA hB
  have HTl : Hid (ST.length = bn) := hTl
  clear hTl
  have han' : (an : Int) ≤ 1500 := by omega
  have hbn' : (bn : Int) ≤ 1500 := by omega
  go_enter Tryz.func44, Tryz.ntmps44
  go_wp2_with (fail)
  refine C1.mono ?_
  rintro e w1 ⟨p1, L, c1, rfl, r1, b1⟩
  obtain rfl : L = bn := by
    have := r1.1.1
    rw [List.length_map, HTl.out] at this
    omega
  have i1 := r1.bytes
  clear C1
  go_wp2_with (fail)
  refine (C2 p1 c1 _ b1 i1).mono ?_
  rintro e w2 ⟨p2, c2, rfl, r2, b2⟩
  have o2 := owns_below r1.1 b2
  have bb2 := below_on b1 b2
  have i2 := r2.bytes
  have hs2 := bb2.size
  clear C2 r1 r2 b1 b2 i1
  go_wp2_with (at_builtin; refine list_spreadA hi hz0 hz1 hz2 (.tmp 34) (.tmp 39) 22 Tryz.underlying22 o2 i2 hsl (by omega) (by omega) hs2 (by rfl) (by rfl) (by rfl) (by rfl) ?_; intro p3 c3 w3 o3 b3)
  go_ret2
  rw [HS.out]
  exact ⟨_, _, rfl, .of o3, bb2.trans b3⟩
theorem eq_len (p q : Option Addr) (n m c d : Nat) (w : World) (hne : n ≠ m) :
    Calls Tryz.prog 21 #[.slice p n c, .slice q m d] w fun e w' => e = .returned (.bool false) ∧ Below w.heap.size w w' := by
  have hd : ((n : Int) != (m : Int)) = true := by simp; omega
  go_enter Tryz.func21, Tryz.ntmps21
  go_wp2
  go_ret
  exact ⟨rfl, Below.refl _ _⟩
set_option maxHeartbeats 1000000 in
theorem eq_same (p q : Option Addr) (n c d : Nat) (xs ys : List Int) (w : World) (hn : n ≤ 9223372036854775807) (hx : xs.length = n) (hy : ys.length = n) (h : BytesIn w p n xs) (h' : BytesIn w q n ys) :
    Calls Tryz.prog 21 #[.slice p n c, .slice q n d] w fun e w' => e = .returned (.bool (decide (xs = ys))) ∧ Below w.heap.size w w' := by
  have hd : ((n : Int) != (n : Int)) = false := by simp
  go_enter Tryz.func21, Tryz.ntmps21
  go_wp2
  go_loopw [5] (fun i wr => ∃ k : Nat, k ≤ n ∧ i = .int .i64 k ∧ Hid (xs.take k = ys.take k) ∧ ∃ m, wr = w.drewN m) (fun i _ => n - (intOf i).toNat)
  case atStart => exact ⟨0, Nat.zero_le _, rfl, by simp [Hid], 0, rfl⟩
  case round =>
    obtain ⟨k, hk, rfl, hsame, m, rfl⟩ := hrel
    by_cases hlt : k < n
    · obtain ⟨b, o, rfl, hc⟩ := h (by omega)
      obtain ⟨b', o', rfl, hc'⟩ := h' (by omega)
      have h1 := hc k hlt
      have h2 := hc' k hlt
      obtain ⟨u, hu⟩ : ∃ u, u = xs.getD k 0 := ⟨_, rfl⟩
      obtain ⟨v, hv⟩ : ∃ v, v = ys.getD k 0 := ⟨_, rfl⟩
      rw [← hu] at h1
      rw [← hv] at h2
      clear hc hc' h h'
      by_cases huv : u = v
      · subst huv
        have hd2 : (u != u) = false := by simp
        have hmore : Hid (xs.take (k + 1) = ys.take (k + 1)) := take_more hx hy hlt hsame (by rw [← hu, ← hv])
        clear hu hv hsame
        go_wp2
        go_quiet (fail)
        go_wp2
        go_roundw
        case rel => exact ⟨k + 1, by omega, by go_num, hmore, _, rfl⟩
        case measure => simp [intOf]; omega
      · have hd2 : (u != v) = true := by simpa using huv
        have hne : Hid (decide (xs = ys) = false) := by have := take_less (k := k) (xs := xs) (ys := ys) (by rw [← hu, ← hv]; exact huv); simpa [Hid] using this
        clear hu hv hsame huv
        go_wp2
        go_quiet (fail)
        go_wp2
        go_ret
        rw [hne.out, World.drewN_drewN]
        exact ⟨rfl, below_drewN (Below.refl _ _) _⟩
    · have hkn : k = n := by omega
      subst hkn
      have hall : Hid (decide (xs = ys) = true) := by simpa [Hid] using take_all hx hy hsame
      clear hsame
      go_wp2
      go_ret
      rw [hall.out]
      exact ⟨rfl, below_drewN (Below.refl _ _) _⟩
theorem eqByteS_any (p q : Option Addr) (n m c d : Nat) (xs ys : List Int) (w : World) (hn : n ≤ 9223372036854775807) (hx : xs.length = n) (hy : ys.length = m) (h : BytesIn w p n xs) (h' : BytesIn w q m ys) :
    Calls Tryz.prog 21 #[.slice p n c, .slice q m d] w fun e w' => e = .returned (.bool (decide (xs = ys))) ∧ Below w.heap.size w w' := by
  by_cases hnm : n = m
  · subst hnm
    exact eq_same p q n c d xs ys w hn hx hy h h'
  · have : decide (xs = ys) = false := by
      simp only [decide_eq_false_iff_not]
      intro e
      subst e
      omega
    rw [this]
    exact eq_len p q n m c d w hnm
set_option maxHeartbeats 1000000 in
theorem toByteS_any (p : Option Addr) (n c : Nat) (xs : List Int) (w : World) (hn : n ≤ 1048576) (hx : xs.length = n) (h : BytesIn w p n xs) :
    Calls Tryz.prog 19 #[.slice p n c] w fun e w' => e = .returned (.slice (some ⟨w.heap.size, 0, none⟩) n n) ∧
      w'.ownsRow w.heap.size 5 1 (.slice (some ⟨w.heap.size, 0, none⟩) n n) n (xs.map (Value.int .u8)) ∧ Below w.heap.size w w' := by
  obtain ⟨i0, hi, hz0, hz1, hz2⟩ := info_parts infoByte
  go_enter Tryz.func19, Tryz.ntmps19
  go_wp2_with (at_make; refine wpList_make_full _ rfl _ _ 22 rfl w.heap.size 5 i0 (.int .u8 0) 1 Tryz.underlying22 hi hz0 hz1 _ _ _ _ n rfl rfl rfl rfl ?b2 ?b3 ?b4 ?_)
  case b2 => rw [hz2]; omega
  case b3 => unfold maxLen; omega
  case b4 => exact Nat.le_refl _
  intro w1 hown hgrow
  rw [fill_start xs n] at hown
  have hbel : Below w.heap.size w w1 := (Below.refl _ _).grown hgrow (Nat.le_refl _) (fun _ h => by cases h)
  clear hgrow
  go_wp2
  go_loopw [4] (fun i wr => ∃ k : Nat, k ≤ n ∧ i = .int .i64 k ∧ wr.ownsRow w.heap.size 5 1 (.slice (some ⟨w.heap.size, 0, none⟩) n n) n ((xs.take k ++ List.replicate (n - k) 0).map (Value.int .u8)) ∧ Below w.heap.size w wr)
    (fun i _ => n - (intOf i).toNat)
  case atStart => exact ⟨0, Nat.zero_le _, rfl, hown, hbel⟩
  case round =>
    clear hown hbel
    obtain ⟨k, hk, rfl, hown, hbel⟩ := hrel
    by_cases hlt : k < n
    · obtain ⟨b, o, rfl, hc⟩ := h (by omega)
      obtain ⟨u, hu⟩ : ∃ u, u = xs.getD k 0 := ⟨_, rfl⟩
      have hcx : wr.cell? ⟨b, o + k, none⟩ = some (.int .u8 u) := by
        rw [hbel.cell (p := ⟨b, o + k, none⟩) (World.block_lt_of_cell? w ⟨b, o + k, none⟩ (hc k hlt)), hu]
        exact hc k hlt
      have hold : wr.cell? ⟨w.heap.size, k, none⟩ = some (.int .u8 0) := by
        rw [hown.cellAt k (by omega)]; exact fill_old xs n k hlt hx
      have hfz := hown.frozenAt k
      have hst := hown.stored k (.int .u8 u)
      rw [fill_step xs n k u hu hlt hx] at hst
      have hbel' := hbel.setCell (p := ⟨w.heap.size, k, none⟩) (Nat.le_refl _) (.int .u8 u)
      clear hc h hu
      go_wp2
      go_roundw
      case rel => exact ⟨k + 1, by omega, by go_num, hst.1, hbel'⟩
      case measure => simp [intOf]; omega
    · have hkn : k = n := by omega
      subst hkn
      go_wp2
      go_ret
      rw [fill_end xs k hx] at hown
      exact ⟨rfl, hown, hbel⟩
theorem toByteS_own (p : Option Addr) (n c : Nat) (xs : List Int) (w : World) (hn : n ≤ 1048576) (hx : xs.length = n) (h : BytesIn w p n xs) :
    Calls Tryz.prog 19 #[.slice p n c] w fun e w' => ∃ p' c', e = .returned (.slice p' n c') ∧ Own 5 w' w.heap.size w'.heap.size (.slice p' n c') n xs ∧ Below w.heap.size w w' :=
  (toByteS_any p n c xs w hn hx h).mono fun _ _ ⟨h1, h2, h3⟩ => ⟨_, _, h1, .of h2, h3⟩
set_option maxHeartbeats 1000000 in
theorem markByteS_any (base : Nat) (p : Option Addr) (n c : Nat) (xs : List Int) (k : Int) (w : World) (hn : n ≤ 1099511627776) (hk : 0 ≤ k) (hk2 : k ≤ 1099511627776)
    (h : w.ownsRow base 5 1 (.slice p n c) n (xs.map (Value.int .u8))) :
    Calls Tryz.prog 22 #[.slice p n c, .int .i64 k] w fun e w' => e = .returned (.int .i64 (k + n)) ∧
      w'.ownsRow base 5 1 (.slice p n c) n ((marks k n).map (Value.int .u8)) ∧ w.grownBy w' (Value.ownBlock (.slice p n c)) := by
  have hx := owns_len h
  go_enter Tryz.func22, Tryz.ntmps22
  go_wp2
  go_loopw [1, 5] (fun q i wr => ∃ j : Nat, j ≤ n ∧ i = .int .i64 j ∧ q = .int .i64 (k + j) ∧ wr.ownsRow base 5 1 (.slice p n c) n ((marks k j ++ xs.drop j).map (Value.int .u8)) ∧ w.grownBy wr (Value.ownBlock (.slice p n c)))
    (fun _ i _ => n - (intOf i).toNat)
  case atStart => exact ⟨0, Nat.zero_le _, rfl, by simp, by simpa [marks] using h, World.grownBy.refl _ _⟩
  case round =>
    clear h
    obtain ⟨j, hj, rfl, rfl, hown, hgr⟩ := hrel
    by_cases hlt : j < n
    · obtain ⟨g, rfl⟩ := owns_at hown (by omega)
      obtain ⟨v, hv⟩ := marks_old k xs n j hlt hx
      have hold : wr.cell? ⟨g, j, none⟩ = some (.int .u8 v) := by
        rw [hown.cellAt j (by omega)]; exact hv
      have hfz := hown.frozenAt j
      clear hv
      have hst := hown.stored j (.int .u8 ((k + (j : Int)) % 256))
      rw [marks_step k xs n j _ rfl hlt hx] at hst
      go_wp2
      go_roundw
      case rel => exact ⟨j + 1, by omega, by go_num, by go_num, hst.1, grown_trans hgr hst.2⟩
      case measure => simp [intOf]; omega
    · have hjn : j = n := by omega
      subst hjn
      rw [marks_end k xs j hx] at hown
      go_wp2
      go_ret
      exact ⟨rfl, hown, hgr⟩
set_option maxHeartbeats 1000000 in
theorem heldByteS_any (p : Option Addr) (n c : Nat) (k : Int) (w : World) (hn : n ≤ 1099511627776) (hk : 0 ≤ k) (hk2 : k ≤ 1099511627776)
    (h : BytesIn w p n (marks k n)) :
    Calls Tryz.prog 27 #[.slice p n c, .int .i64 k] w fun e w' => e = .returned (.int .i64 (k + n)) ∧ Below w.heap.size w w' := by
  go_enter Tryz.func27, Tryz.ntmps27
  go_wp2
  go_loop [1, 5] (fun q i => ∃ j : Nat, j ≤ n ∧ i = .int .i64 j ∧ q = .int .i64 (k + j)) (fun _ i => n - (intOf i).toNat)
  case atStart => exact ⟨0, Nat.zero_le _, rfl, by simp⟩
  case round =>
    obtain ⟨j, hj, rfl, rfl⟩ := hrel
    by_cases hlt : j < n
    · obtain ⟨b, o, rfl, hc⟩ := h (by omega)
      have h1 := hc j hlt
      rw [marks_getD k n j hlt] at h1
      have hd : ((k + (j : Int)) % 256 != (k + (j : Int)) % 256) = false := by simp
      clear hc h
      go_wp2
      go_round
      case rel => exact ⟨j + 1, by omega, by go_num, by go_num⟩
      case measure => simp [intOf]; omega
    · have hjn : j = n := by omega
      subst hjn
      go_wp2
      go_ret
      exact ⟨rfl, Below.refl _ _⟩
theorem markByteS_own (lo hi : Nat) (p : Option Addr) (n c : Nat) (xs : List Int) (k : Int) (w : World) (hn : n ≤ 1099511627776) (hk : 0 ≤ k) (hk2 : k ≤ 1099511627776)
    (h : Own 5 w lo hi (.slice p n c) n xs) :
    Calls Tryz.prog 22 #[.slice p n c, .int .i64 k] w fun e w' => e = .returned (.int .i64 (k + n)) ∧
      Own 5 w' lo hi (.slice p n c) n (marks k n) ∧ w.grownBy w' (Value.ownBlock (.slice p n c)) :=
  (markByteS_any lo p n c xs k w hn hk hk2 h.1).mono fun _ _ ⟨h1, h2, h3⟩ => ⟨h1, ⟨h2, h.2⟩, h3⟩
def TagIs (f : Nat) : Prop := ∀ (p q : Option Addr) (n m c d : Nat) (ks bs : List Int) (w : World), ks.length = n → bs.length = m → BytesIn w p n ks → BytesIn w q m bs → (∀ x ∈ ks, 0 ≤ x ∧ x < 256) → (∀ x ∈ bs, 0 ≤ x ∧ x < 256) → n ≤ c → m ≤ d →
    Calls Tryz.prog f #[.slice p n c, .slice q m d] w fun e w' => ∃ p' c', e = .returned (.slice p' (tagN n m) c') ∧ Own 5 w' w.heap.size w'.heap.size (.slice p' (tagN n m) c') (tagN n m) (tagL ks bs) ∧ Below w.heap.size w w'
end Go.Proofs.YtnpffnhiefgglaaGreatDoor
namespace Go.Proofs.YtnpffnhiefgglaaGreatDoor
open Go Go.Conc Go.RowKit
set_option maxRecDepth 100000
structure Gr (C : Array Value) (e : TypeId) (w : World) : Prop where
  tab : TableIn C e w
  flat : ∀ v ∈ C, flatC v = true
  pl : ∀ (j : Nat) v, placesC[j]? = some v → C[j]? = some v
  cells : CellsTo Tryz.prog.globals.size w
theorem Gr.on {C : Array Value} {e : TypeId} {w w1 : World} (h : Gr C e w) (hl : Below w.heap.size w w1) : Gr C e w1 := ⟨by
  obtain ⟨lo, hi, h1, h2⟩ := h.tab
  exact ⟨lo, hi, (hl.block _ (Array.getElem?_eq_some_iff.1 h1).1).trans h1, h2⟩, h.flat, h.pl, cells_keeps h.cells hl.block⟩
theorem cells_le {n : Nat} {w : World} (h : CellsTo n w) : n ≤ w.heap.size := by
  cases n with
  | zero => exact Nat.zero_le _
  | succ n =>
    obtain ⟨o, h1, _⟩ := h n (Nat.lt_succ_self n)
    exact (Array.getElem?_eq_some_iff.1 h1).1
def LawDone (f : FuncId) (t : Nat) (W : World) (g : Goroutine) (w1 : World) : Prop := ∃ frE : Frame, g = G frE [] ∧ frE.mode = .returning ∧ frE.fn = f ∧ frE.defers = [] ∧ frE.kind = .normal ∧ frE.tmps.getD t undef = .bool true ∧ Lay W w1
def See (e : Nat) (w : World) (lo hi : Nat) (v : Value) (n : Nat) (xs : List Int) : Prop := (n = 0 ∧ xs.length = 0) ∨ Own e w lo hi v n xs
section
variable {e : Nat} {w w' : World} {lo hi lo' hi' : Nat} {u v : Value} {n m : Nat} {xs ys : List Int}
theorem Own.tee {p : Option Addr} {c : Nat} (h : Own e w lo hi (.slice p n c) n xs) (hb : ∀ x ∈ xs, 0 ≤ x ∧ x < 256) : BytesT w p n c xs := ⟨h.len, h.cap, hb, fun h0 => by
  obtain ⟨b, o, e1, hc⟩ := h.bytes h0
  refine ⟨b, o, e1, fun j u hj => ?_⟩
  have hj' := (List.getElem?_eq_some_iff.1 hj).1
  have hl := h.len
  have := hc j (by omega)
  rw [List.getD_eq_getElem?_getD, hj] at this
  exact this⟩
theorem Own.low (h : Own e w lo hi v n xs) {lo' : Nat} (hl : lo' ≤ lo) : Own e w lo' hi v n xs := by
  obtain ⟨⟨h1, h2⟩, h3⟩ := h
  exact ⟨⟨h1, h2.imp id fun ⟨g, cap, cur, e1, h4, h5⟩ => ⟨g, cap, cur, e1, Nat.le_trans hl h4, h5⟩⟩, h3⟩
end
theorem seaL_length {KS NS AS BS : List Int} {an bn : Nat} (hK : KS.length = 32) (hN : NS.length = 12) (hA : AS.length = an) (hB : BS.length = bn) (han : an ≤ 1500) (hbn : bn ≤ 1500) : (seaL KS NS AS BS).length = bn + 16 := by
  rw [seaL, List.length_append, strT_length, hB, sea_length hK hN hA hB han hbn]
theorem row_owns {u : World} {γ n rc : Nat} {xs : List Int} (h : u.heap[γ]? = some (.cells (xs.map (Value.int .u8) ++ zerV (rc - n)).toArray 5 (0, 0))) (hn : n ≤ rc) (hm : rc ≤ maxLen) (hl : xs.length = n) : u.ownsRow γ 5 1 (.slice (some ⟨γ, 0, none⟩) n rc) n (xs.map (Value.int .u8)) :=
  ⟨by simp [hl], .inr ⟨γ, rc, _, rfl, Nat.le_refl _, h, hn, hm, by simp [zerV, hl]; omega, by
    rw [Nat.mul_one, List.take_append_of_le_length (by simp [hl])]
    exact List.take_of_length_le (by simp [hl])⟩⟩
theorem BCalls.row {Al : Als} (T : TameA Tryz.prog Al) {f : FuncId} {x : Array Value} {n : Nat} {xs : List Int} {w : World} (hf : Al f = true) (hb : Al.b f = false) (hx : ∀ t, t < x.size → t < 200 → Al.f f t = false)
    (hC : ∀ θ w1, Below (World.ret w θ).heap.size (World.ret w θ) w1 → Calls Tryz.prog f x w1 fun e w2 => ∃ p c, e = .returned (.slice p n c) ∧ Own 5 w2 w1.heap.size w2.heap.size (.slice p n c) n xs ∧ Below w1.heap.size w1 w2) :
    BCalls Tryz.prog f x w fun v w2 => ∃ p c, v = .slice p n c ∧ Own 5 w2 w.heap.size w2.heap.size (.slice p n c) n xs ∧ Below w.heap.size w w2 :=
  BCalls.lone T hf hb hx fun θ w1 h1 => (hC θ w1 h1).mono fun e w2 ⟨p, c, h2, ho, h3⟩ => ⟨_, h2, fun w3 l t => ⟨p, c, rfl, by
    have ho' := (ho.like l).low (lo' := w.heap.size) h1.size
    obtain ⟨τ, d, rfl⟩ := l
    exact ho', l.below (θ := θ) t (below_on h1 h3)⟩⟩
def sealN (kn nn an bn : Nat) : Nat := if kn = 32 ∧ nn = 12 ∧ an ≤ 1500 ∧ bn ≤ 1500 then bn + 16 else 0
def sealB (kn nn an bn : Nat) : Bool := decide (kn = 32 ∧ nn = 12 ∧ an ≤ 1500 ∧ bn ≤ 1500)
def sealX (kn nn an bn : Nat) (KS NS AS BS : List Int) : List Int := if kn = 32 ∧ nn = 12 ∧ an ≤ 1500 ∧ bn ≤ 1500 then seaL KS NS AS BS else []
theorem sizes_iff (kn nn an bn : Nat) : SizesOk kn nn an bn ↔ kn = 32 ∧ nn = 12 ∧ an ≤ 1500 ∧ bn ≤ 1500 := ⟨fun ⟨a, b, c, _, d⟩ => ⟨a, b, c, by omega⟩, fun ⟨a, b, c, d⟩ => ⟨a, b, c, by omega, by omega⟩⟩
theorem implSeal_b (kp np ap bp : Option Addr) (kn kc nn nc an ac bn bc : Nat) (KS NS AS BS : List Int) (C : Array Value) (e : TypeId) (w : World) (hg : Gr C e w) (hK : BytesT w kp kn kc KS) (hN : BytesT w np nn nc NS) (hA : BytesT w ap an ac AS) (hB : BytesT w bp bn bc BS) :
    BCalls Tryz.prog 38 #[.slice kp kn kc, .slice np nn nc, .slice ap an ac, .slice bp bn bc] w fun v w2 => ∃ p c, v = .tuple #[.slice p (sealN kn nn an bn) c, .bool (sealB kn nn an bn)] ∧ Own 5 w2 w.heap.size w2.heap.size (.slice p (sealN kn nn an bn) c) (sealN kn nn an bn) (sealX kn nn an bn KS NS AS BS) ∧ Below w.heap.size w w2 := fun Q fr cs h w1 hG hl => by
  have g1 := hg.on hl
  refine (seal_bes kp np ap bp kn kc nn nc an ac bn bc KS NS AS BS fr cs C e w1 (hK.keeps hl.block) (hN.keeps hl.block) (hA.keeps hl.block) (hB.keeps hl.block) g1.tab g1.flat g1.pl g1.cells).bind fun g w2 ⟨hl2, h'⟩ => ?_
  have hG2 := cells_keeps hG hl2.heap
  have hb2 := below_on hl hl2.below
  rcases h' with ⟨hno, rfl⟩ | ⟨hok, γ, rc, h1, h2, h3, rfl, h5⟩
  · rw [sizes_iff] at hno
    refine h _ w2 ⟨none, 0, ?_, ?_, hb2⟩ w2 hG2 (.refl _ _)
    · simp only [sealN, sealB, if_neg hno, decide_eq_false hno]
    · simp only [sealN, sealX, if_neg hno]
      exact .of (World.ownsRow_nil w2 _ 5 1)
  · rw [sizes_iff] at hok
    refine h _ w2 ⟨some ⟨γ, 0, none⟩, rc, ?_, ?_, hb2⟩ w2 hG2 (.refl _ _)
    · simp only [sealN, sealB, if_pos hok, decide_eq_true hok]
    · simp only [sealN, sealX, if_pos hok]
      have hlen : (seaL KS NS AS BS).length = bn + 16 := seaL_length (hK.len.trans hok.1) (hN.len.trans hok.2.1) hA.len hB.len hok.2.2.1 hok.2.2.2
      exact Own.low (.of (row_owns h5 h2 h3 hlen)) (Nat.le_trans hl.size h1)
theorem results_oneT {P : Program} {fn : Func} {t : Nat} (hres : fn.results = #[.tmp t]) (tmps : Array Value) (w : World) : (results fn tmps).runT P w #[] = (.ok (tmps.getD t undef) w, #[]) := by
  simp [results, hres]
theorem law_fin {W : World} {f : FuncId} {fn : Func} {t : Nat} {args : Array Value} (hfn : Tryz.prog.funcs[f]? = some fn) (hres : fn.results = #[.tmp t]) (hini : Tryz.prog.inits.idxOf? f = none)
    (hB : Bes Tryz.prog (fun g w1 => ∃ frE : Frame, g = G frE [] ∧ frE.mode = .returning ∧ frE.fn = f ∧ frE.defers = [] ∧ frE.kind = .normal ∧ frE.tmps.getD t undef = .bool true ∧ Lay W w1) (G (Frame.enter Tryz.prog f args .normal) []) W) :
    ∃ M last o w' t', runNT Tryz.prog (M + 1) (solo (G (Frame.enter Tryz.prog f args .normal) []) W) #[] = (.ended o w', t') ∧ runN Tryz.prog M (solo (G (Frame.enter Tryz.prog f args .normal) []) W) = .next last ∧ step Tryz.prog last = .ended o w' ∧ Go.Conc.Good Tryz.prog (fun v w1 => v = .bool true ∧ Below W.heap.size W w1) last o w' t' := by
  obtain ⟨N, gs1, w1, sl1, t1, hr, g1, q1, h0, ⟨frE, rfl, m1, m2, m4, m5, e2, hl⟩, hL, hP⟩ := hB #[G (Frame.enter Tryz.prog f args .normal) []] none #[] (fun _ => 0) rfl (LeavX.of_leavers (leavers_one _ _)) (past_nil.mono (Nat.zero_le _))
  have hend : ∀ w2, AtRel w1 w2 → AtEnd Tryz.prog (fun _ => False) w1.heap.size (fun v w' => v = .bool true ∧ Below W.heap.size W w') (G frE []) w2 := by
    rintro w2 ⟨d, rfl⟩
    have m3 : Tryz.prog.funcs[frE.fn]? = some fn := by rw [m2]; exact hfn
    refine ⟨rfl, .bool true, #[], ?_, by simp, rfl, hl.os, hl.tape, hl.output, hl.size, hl.heap⟩
    simp only [stepG, G, m1, unwind, m4, m3, results_oneT hres, e2, GStep.after, doReturn, m5]
    rw [m2, hini, if_neg (by decide), seen_none]
    rfl
  obtain ⟨N', last, o, w', t', e4, e5, e6, e7⟩ := beside_ends (P := Tryz.prog) (D := fun _ _ _ => False) (n := 0) (sl := sl1) (fun _ _ _ h => h.elim) h0 hL.leavers hP hend
  refine ⟨N + N', last, o, w', t', ?_, ?_, e6, e7⟩
  · rw [Nat.add_assoc, runNT_add]
    rw [show runNT Tryz.prog N (solo (G (Frame.enter Tryz.prog f args .normal) []) W) #[] = (.next (crowd gs1 w1 sl1), t1) from hr]
    exact e4
  · rw [runN_add]
    rw [show runN Tryz.prog N (solo (G (Frame.enter Tryz.prog f args .normal) []) W) = .next (crowd gs1 w1 sl1) by rw [← runNT_fst _ _ _ #[]]; exact congrArg Prod.fst hr]
    exact e5
end Go.Proofs.YtnpffnhiefgglaaGreatDoor
namespace Go.Proofs.YtnpffnhiefgglaaGreatDoor
open Go.RowKit
set_option maxRecDepth 100000
theorem cells_of_tab2 {H : Type} {enc : TypeId × Value → H} {P : Program} {w : World} {base : Nat} {sp : Nat → Bool} {held : Bool} {fuel : Nat} {t t2 e : TypeId} {n m : Nat} {k : IntKind} {cs : List Value} {zss : List (List Int)} {p : List MemPlace}
    (ht : P.underlying t = some (.array n t2)) (ht2 : P.underlying t2 = some (.array m e)) (he : P.underlying e = some (.int k)) (hce : P.cellsOf e = 1) (hc2 : P.cellsOf t2 = m)
    (h : DataW.trod enc P w base sp held fuel t cs = some (.agg (zss.map (Lib.tabData k)), p)) : ∀ i zs, zss[i]? = some zs → (cs.drop (i * m)).take m = zs.map fun z => Value.int k z := by
  cases fuel with
  | zero => simp [DataW.trod] at h
  | succ fuel =>
    simp only [DataW.trod, ht, hc2] at h
    split at h
    · obtain ⟨xs, hm, hx⟩ := Option.map_eq_some_iff.1 h
      have hxs : xs.map (·.1) = zss.map (Lib.tabData (H := H) k) := by
        have := congrArg Prod.fst hx
        simpa using this
      have hxl : xs.length = n := by simpa using Lib.mapM_length hm
      intro i zs hz
      have hi : i < n := by
        have h1 : i < zss.length := (List.getElem?_eq_some_iff.1 hz).1
        have := congrArg List.length hxs
        simp at this
        omega
      obtain ⟨b, hb, hf⟩ := Lib.mapM_at hm i i (by simp [hi])
      have h2 : (xs.map (·.1))[i]? = some b.1 := by simp [hb]
      rw [hxs, List.getElem?_map, hz] at h2
      have h3 : b = (Lib.tabData k zs, b.2) := by
        have := Option.some.inj h2
        rw [this]
      rw [h3] at hf
      exact Lib.cells_of_tab ht2 he hce hc2 hf
    · cases h
theorem places_of {W : World} {rest : List (String × DataW Unit)} (h : laidMet Tryz.prog (("loop.example/g00473/impl.quarterPlaces", .agg ((placesL.map castL).map (Lib.tabData .i64))) :: rest) W) : PlacesIs W := by
  obtain ⟨ps, ⟨g', t', cs, fuel, p, q, hg', ht', hvar, hd, _, _⟩, _⟩ := h
  have hg : Tryz.prog.globalNamed "loop.example/g00473/impl.quarterPlaces" = some 1 := by kernel_rfl
  have hty : (Tryz.prog.globals[1]?).map (·.type) = some 213 := by kernel_rfl
  obtain rfl := Option.some.inj (hg.symm.trans hg')
  obtain rfl := Option.some.inj (hty.symm.trans ht')
  have key := cells_of_tab2 Tryz.underlying213 Tryz.underlying212 Tryz.underlying3 (by kernel_rfl) (by kernel_rfl) hd
  intro j v hv
  have hj : j < 32 := (List.getElem?_eq_some_iff.1 hv).1
  have hc := World.var?_cell hg hvar j
  rw [Nat.zero_add, hc]
  obtain ⟨a, b, ha, hb, rfl⟩ : ∃ a b, a < 8 ∧ b < 4 ∧ j = a * 4 + b := ⟨j / 4, j % 4, by omega, by omega, by omega⟩
  have k1 := fun zs hz => congrArg (fun l : List Value => l[b]?) (key a zs hz)
  simp only [List.getElem?_take, List.getElem?_drop, if_pos hb] at k1
  have h8 : a = 0 ∨ a = 1 ∨ a = 2 ∨ a = 3 ∨ a = 4 ∨ a = 5 ∨ a = 6 ∨ a = 7 := by omega
  have h4 : b = 0 ∨ b = 1 ∨ b = 2 ∨ b = 3 := by omega
  have e : cs[a * 4 + b]? = cs.toList[a * 4 + b]? := by simp
  rw [e]
  clear e hc hvar hd key
  rcases h8 with rfl | rfl | rfl | rfl | rfl | rfl | rfl | rfl <;> rcases h4 with rfl | rfl | rfl | rfl <;> exact (k1 _ rfl).trans hv
end Go.Proofs.YtnpffnhiefgglaaGreatDoor
