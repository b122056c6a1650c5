/- The contract of strconv.syntaxError that the library holds, laid at this program. -/
import Derived.Shelf.Pu.SyntaxError
import Derived.Test.YtcajfnhbfciahakDoorProg
namespace Go.Proofs
open Go.Shelf
def Tryd.laysPu21_ren : Go.Shelf.Ren := ⟨fun | 21 => 47 | 25 => 64 | n => n, fun | 22 => 40 | 23 => 41 | 24 => 42 | 25 => 43 | 26 => 44 | 33 => 54 | 34 => 59 | 35 => 60 | 36 => 61 | 37 => 28 | 38 => 52 | 39 => 62 | 40 => 63 | 41 => 64 | 42 => 82 | 43 => 83 | 44 => 84 | 45 => 85 | 46 => 30 | 47 => 87 | 48 => 92 | 49 => 93 | 50 => 94 | 51 => 101 | 52 => 107 | 53 => 108 | 54 => 109 | 55 => 110 | 56 => 111 | 57 => 117 | 58 => 118 | 59 => 119 | 60 => 102 | 61 => 120 | 62 => 121 | 63 => 122 | 64 => 123 | 65 => 124 | 66 => 125 | 67 => 51 | 68 => 126 | 69 => 127 | 70 => 128 | 71 => 129 | 72 => 130 | 73 => 100 | 74 => 131 | 75 => 132 | 76 => 133 | 77 => 134 | 78 => 135 | 79 => 136 | 80 => 137 | 81 => 95 | n => n, fun | 2 => 5 | 3 => 6 | 4 => 7 | n => n⟩
theorem Tryd.laysPu21 : Go.Proofs.LaysPu.n21 Tryd.prog Tryd.laysPu21_ren := {
  mixed := by kernel_rfl
  f21 := Tryd.func47.trans (congrArg some (by kernel_rfl))
  f25 := Tryd.func64.trans (congrArg some (by kernel_rfl))
  t0 := Tryd.underlying0
  a0 := Tryd.isAgg0
  z0 := Tryd.sizeOf0
  v0 := Tryd.zeroValue0
  i0 := by kernel_rfl
  t3 := Tryd.underlying3
  a3 := Tryd.isAgg3
  z3 := Tryd.sizeOf3
  v3 := Tryd.zeroValue3
  i3 := by kernel_rfl
  t4 := Tryd.underlying4
  a4 := Tryd.isAgg4
  z4 := Tryd.sizeOf4
  v4 := Tryd.zeroValue4
  i4 := by kernel_rfl
  t5 := Tryd.underlying5
  a5 := Tryd.isAgg5
  z5 := Tryd.sizeOf5
  v5 := Tryd.zeroValue5
  i5 := by kernel_rfl
  t9 := Tryd.underlying9
  a9 := Tryd.isAgg9
  z9 := Tryd.sizeOf9
  v9 := Tryd.zeroValue9
  i9 := by kernel_rfl
  t24 := Tryd.underlying42
  a24 := Tryd.isAgg42
  z24 := Tryd.sizeOf42
  v24 := Tryd.zeroValue42
  i24 := by kernel_rfl
  t37 := Tryd.underlying28
  a37 := Tryd.isAgg28
  z37 := Tryd.sizeOf28
  v37 := Tryd.zeroValue28
  i37 := by kernel_rfl
  t39 := Tryd.underlying62
  a39 := Tryd.isAgg62
  z39 := Tryd.sizeOf62
  v39 := Tryd.zeroValue62
  i39 := by kernel_rfl
  t44 := Tryd.underlying84
  a44 := Tryd.isAgg84
  z44 := Tryd.sizeOf84
  v44 := Tryd.zeroValue84
  i44 := by kernel_rfl
  t47 := Tryd.underlying87
  a47 := Tryd.isAgg87
  z47 := Tryd.sizeOf87
  v47 := Tryd.zeroValue87
  i47 := by kernel_rfl
  t67 := Tryd.underlying51
  a67 := Tryd.isAgg51
  z67 := Tryd.sizeOf51
  v67 := Tryd.zeroValue51
  i67 := by kernel_rfl
  g0 := by kernel_rfl
  m0 := by kernel_rfl }

end Go.Proofs
