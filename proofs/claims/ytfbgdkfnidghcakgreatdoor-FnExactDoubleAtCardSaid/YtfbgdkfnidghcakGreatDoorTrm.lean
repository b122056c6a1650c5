/- The contract of bytes.TrimRight that the library holds, laid at this program. -/
import Derived.Shelf.Bytes.SlTrim
import Derived.Test.YtfbgdkfnidghcakGreatDoorProg
namespace Go.Proofs
open Go.Shelf
def Tryz.laysV7_ren : Go.Shelf.Ren := ⟨fun | 7 => 33 | 10 => 43 | 11 => 44 | 13 => 45 | 15 => 46 | 16 => 58 | 17 => 69 | 18 => 60 | 19 => 59 | 20 => 76 | 21 => 68 | n => n, fun | 22 => 27 | 23 => 50 | 25 => 61 | 26 => 62 | 27 => 63 | 28 => 64 | 29 => 65 | 30 => 66 | 31 => 67 | 32 => 70 | 33 => 75 | 34 => 76 | 35 => 77 | 36 => 101 | 37 => 84 | 38 => 102 | 39 => 103 | 40 => 104 | 41 => 46 | 42 => 127 | 43 => 128 | 44 => 129 | 45 => 130 | 46 => 131 | 47 => 88 | 48 => 90 | 49 => 132 | 50 => 133 | 51 => 134 | 52 => 74 | 53 => 135 | 54 => 136 | 55 => 137 | 56 => 138 | 57 => 82 | n => n, fun | n => n⟩
theorem Tryz.laysV7 : Go.Proofs.SlLaysV.n7 Tryz.prog Tryz.laysV7_ren := {
  mixed := by kernel_rfl
  f7 := Tryz.func33.trans (congrArg some (by kernel_rfl))
  f10 := Tryz.func43.trans (congrArg some (by kernel_rfl))
  f11 := Tryz.func44.trans (congrArg some (by kernel_rfl))
  f13 := Tryz.func45.trans (congrArg some (by kernel_rfl))
  f15 := Tryz.func46.trans (congrArg some (by kernel_rfl))
  f16 := Tryz.func58.trans (congrArg some (by kernel_rfl))
  f17 := Tryz.func69.trans (congrArg some (by kernel_rfl))
  f18 := Tryz.func60.trans (congrArg some (by kernel_rfl))
  f19 := Tryz.func59.trans (congrArg some (by kernel_rfl))
  f20 := Tryz.func76.trans (congrArg some (by kernel_rfl))
  f21 := Tryz.func68.trans (congrArg some (by kernel_rfl))
  t0 := Tryz.underlying0
  a0 := Tryz.isAgg0
  z0 := Tryz.sizeOf0
  v0 := Tryz.zeroValue0
  t3 := Tryz.underlying3
  a3 := Tryz.isAgg3
  z3 := Tryz.sizeOf3
  v3 := Tryz.zeroValue3
  t4 := Tryz.underlying4
  a4 := Tryz.isAgg4
  z4 := Tryz.sizeOf4
  v4 := Tryz.zeroValue4
  t5 := Tryz.underlying5
  a5 := Tryz.isAgg5
  z5 := Tryz.sizeOf5
  v5 := Tryz.zeroValue5
  t9 := Tryz.underlying9
  a9 := Tryz.isAgg9
  z9 := Tryz.sizeOf9
  v9 := Tryz.zeroValue9
  t21 := Tryz.underlying21
  a21 := Tryz.isAgg21
  z21 := Tryz.sizeOf21
  v21 := Tryz.zeroValue21
  t22 := Tryz.underlying27
  a22 := Tryz.isAgg27
  z22 := Tryz.sizeOf27
  v22 := Tryz.zeroValue27
  t27 := Tryz.underlying63
  a27 := Tryz.isAgg63
  z27 := Tryz.sizeOf63
  t28 := Tryz.underlying64
  a28 := Tryz.isAgg64
  z28 := Tryz.sizeOf64
  v28 := Tryz.zeroValue64
  t31 := Tryz.underlying67
  a31 := Tryz.isAgg67
  z31 := Tryz.sizeOf67
  v31 := Tryz.zeroValue67
  t33 := Tryz.underlying75
  a33 := Tryz.isAgg75
  z33 := Tryz.sizeOf75
  v33 := Tryz.zeroValue75
  t36 := Tryz.underlying101
  a36 := Tryz.isAgg101
  z36 := Tryz.sizeOf101
  t37 := Tryz.underlying84
  a37 := Tryz.isAgg84
  z37 := Tryz.sizeOf84
  v37 := Tryz.zeroValue84
  t39 := Tryz.underlying103
  a39 := Tryz.isAgg103
  z39 := Tryz.sizeOf103
  v39 := Tryz.zeroValue103
  t40 := Tryz.underlying104
  a40 := Tryz.isAgg104
  z40 := Tryz.sizeOf104
  v40 := Tryz.zeroValue104 }

end Go.Proofs
