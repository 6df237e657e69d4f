/-
  bytes_Split at this program's numbers, laid from the library's own theorem by the guide's commands; its condition: the table of tens holds what its text says.
-/
import Derived.Shelf.Utf8.RuneCount
import Derived.Shelf.Strings.Search1
import Derived.Shelf.Strings.RuneCount
import Derived.Shelf.Bytes.SlIndexSmall
import Derived.Ground.SlbNamesProg
import Derived.Shelf.Bytes.SlCountOne
import Derived.Shelf.Bytes.SlIndexAt
import Derived.Shelf.Bytes.SlSearch0
import Derived.Shelf.Bytes.SlSearch1
import Derived.Shelf.Bytes.SlSearch2
import Derived.Shelf.Bytes.SlIndexWhole
import Derived.Shelf.LaysM
import Derived.Shelf.Bytes.SlCountWhole
import Derived.Ground.SlbSplitProg
import Derived.Shelf.Bytes.SlSplit
import Derived.Shelf.Bytes.SlSplitNil
import Derived.Shelf.Bytes.Small
import Derived.Shelf.Bytes.IndexByte
import Derived.Test.YtjcombfcilbafajDoorProg
namespace Go.Proofs
open Go.Shelf
def Tryd.laysSlP7_ren : Go.Shelf.Ren := ⟨fun | 7 => 9 | 11 => 11 | 14 => 12 | 15 => 13 | 16 => 14 | 17 => 15 | 19 => 16 | 20 => 17 | 21 => 18 | 22 => 19 | 23 => 20 | 24 => 21 | 25 => 22 | 26 => 23 | 29 => 24 | 30 => 25 | 31 => 26 | n => n, fun | 22 => 29 | 23 => 27 | 3 => 3 | 4 => 4 | 0 => 0 | 34 => 34 | 21 => 21 | 5 => 5 | 45 => 40 | 9 => 9 | 58 => 43 | 38 => 42 | 28 => 45 | 62 => 48 | 61 => 47 | n => n, fun | 2 => 0 | 3 => 1 | 4 => 2 | n => n⟩
theorem Tryd.laysSlP7 : Go.Proofs.SlLaysP.n7 Tryd.prog Tryd.laysSlP7_ren := {
  mixed := by kernel_rfl
  f7 := Tryd.func9.trans (congrArg some (by kernel_rfl))
  f11 := Tryd.func11.trans (congrArg some (by kernel_rfl))
  f15 := Tryd.func13.trans (congrArg some (by kernel_rfl))
  f16 := Tryd.func14.trans (congrArg some (by kernel_rfl))
  f20 := Tryd.func17.trans (congrArg some (by kernel_rfl))
  f21 := Tryd.func18.trans (congrArg some (by kernel_rfl))
  f22 := Tryd.func19.trans (congrArg some (by kernel_rfl))
  f23 := Tryd.func20.trans (congrArg some (by kernel_rfl))
  f24 := Tryd.func21.trans (congrArg some (by kernel_rfl))
  f25 := Tryd.func22.trans (congrArg some (by kernel_rfl))
  f30 := Tryd.func25.trans (congrArg some (by kernel_rfl))
  f31 := Tryd.func26.trans (congrArg some (by kernel_rfl))
  t0 := Tryd.underlying0
  a0 := Tryd.isAgg0
  z0 := Tryd.sizeOf0
  v0 := Tryd.zeroValue0
  t3 := Tryd.underlying3
  a3 := Tryd.isAgg3
  z3 := Tryd.sizeOf3
  v3 := Tryd.zeroValue3
  t4 := Tryd.underlying4
  a4 := Tryd.isAgg4
  z4 := Tryd.sizeOf4
  v4 := Tryd.zeroValue4
  t5 := Tryd.underlying5
  a5 := Tryd.isAgg5
  z5 := Tryd.sizeOf5
  v5 := Tryd.zeroValue5
  t9 := Tryd.underlying9
  a9 := Tryd.isAgg9
  z9 := Tryd.sizeOf9
  v9 := Tryd.zeroValue9
  t22 := Tryd.underlying29
  a22 := Tryd.isAgg29
  z22 := Tryd.sizeOf29
  v22 := Tryd.zeroValue29
  t23 := Tryd.underlying27
  a23 := Tryd.isAgg27
  z23 := Tryd.sizeOf27
  v23 := Tryd.zeroValue27
  t38 := Tryd.underlying42
  a38 := Tryd.isAgg42
  z38 := Tryd.sizeOf42
  v38 := Tryd.zeroValue42
  t45 := Tryd.underlying40
  a45 := Tryd.isAgg40
  z45 := Tryd.sizeOf40
  v45 := Tryd.zeroValue40
  t58 := Tryd.underlying43
  a58 := Tryd.isAgg43
  z58 := Tryd.sizeOf43
  v58 := Tryd.zeroValue43
  g2 := by kernel_rfl
  i22 := by kernel_rfl }
open Go.RowKit Go.Lib in
theorem Tryd.bytes_Split (a1 a2 : Addr) (n c1 k c2 : Nat) (xs ys : List Int) (m : Int) (w : World) (hx : xs.length = n) (hy : ys.length = k) (hr1 : ∀ x ∈ xs, 0 ≤ x ∧ x < 256) (hr2 : ∀ y ∈ ys, 0 ≤ y ∧ y < 256) (hc1 : ∀ i, i < n → w.cell? (a1.add i) = some (.int .u8 (xs.getD i 0))) (hc2 : ∀ i, i < k → w.cell? (a2.add i) = some (.int .u8 (ys.getD i 0))) (hcap : n ≤ c1) (hs : n < 4294967281) (hk : k ≤ 9223372036854775807) (hc63 : c1 ≤ 9223372036854775807) (h1 : 1 ≤ k) (hm : w.cell? ⟨0, 0, none⟩ = some (.int .i64 m)) :
    Calls Tryd.prog 9 #[.slice (some a1) n c1, .slice (some a2) k c2] w fun e w' =>
      e = .returned (.slice (some ⟨w.heap.size, 0, none⟩) (Lib.count (Lib.bytesOf xs) (Lib.bytesOf ys) + 1) (Lib.count (Lib.bytesOf xs) (Lib.bytesOf ys) + 1)) ∧ ∃ q, w' = (w.alloc (.cells (Lib.splitV (Lib.bytesOf ys) 0 (Lib.count (Lib.bytesOf xs) (Lib.bytesOf ys)) a1 c1 (Lib.bytesOf xs)).toArray 29)).drewN q := Any.bytes_Split Tryd.laysSlP7 a1 a2 n c1 k c2 xs ys m w hx hy hr1 hr2 hc1 hc2 hcap hs hk hc63 h1 hm
end Go.Proofs
