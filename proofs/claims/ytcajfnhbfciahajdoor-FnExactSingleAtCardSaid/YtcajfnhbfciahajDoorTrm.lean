/- The contract of bytes.TrimRight that the library holds, laid at this program. -/
import Derived.Shelf.Bytes.SlTrim
import Derived.Test.YtcajfnhbfciahajDoorProg
namespace Go.Proofs
open Go.Shelf
def Tryd.laysV7_ren : Go.Shelf.Ren := ⟨fun | 7 => 33 | 10 => 41 | 11 => 42 | 13 => 43 | 15 => 44 | 16 => 53 | 17 => 61 | 18 => 55 | 19 => 54 | 20 => 64 | 21 => 60 | n => n, fun | 22 => 27 | 23 => 54 | 25 => 60 | 26 => 61 | 27 => 62 | 28 => 63 | 29 => 64 | 30 => 65 | 31 => 66 | 32 => 55 | 33 => 76 | 34 => 77 | 35 => 78 | 36 => 86 | 37 => 71 | 38 => 87 | 39 => 88 | 40 => 89 | 41 => 40 | 42 => 90 | 43 => 91 | 44 => 92 | 45 => 93 | 46 => 94 | 47 => 75 | 48 => 79 | 49 => 95 | 50 => 96 | 51 => 97 | 52 => 59 | 53 => 98 | 54 => 99 | 55 => 100 | 56 => 101 | 57 => 69 | n => n, fun | 0 => 1 | 1 => 2 | n => n⟩
theorem Tryd.laysV7 : Go.Proofs.SlLaysV.n7 Tryd.prog Tryd.laysV7_ren := {
  mixed := by kernel_rfl
  f7 := Tryd.func33.trans (congrArg some (by kernel_rfl))
  f10 := Tryd.func41.trans (congrArg some (by kernel_rfl))
  f11 := Tryd.func42.trans (congrArg some (by kernel_rfl))
  f13 := Tryd.func43.trans (congrArg some (by kernel_rfl))
  f15 := Tryd.func44.trans (congrArg some (by kernel_rfl))
  f16 := Tryd.func53.trans (congrArg some (by kernel_rfl))
  f17 := Tryd.func61.trans (congrArg some (by kernel_rfl))
  f18 := Tryd.func55.trans (congrArg some (by kernel_rfl))
  f19 := Tryd.func54.trans (congrArg some (by kernel_rfl))
  f20 := Tryd.func64.trans (congrArg some (by kernel_rfl))
  f21 := Tryd.func60.trans (congrArg some (by kernel_rfl))
  t0 := Tryd.underlying0
  a0 := Tryd.isAgg0
  z0 := Tryd.sizeOf0
  v0 := Tryd.zeroValue0
  t3 := Tryd.underlying3
  a3 := Tryd.isAgg3
  z3 := Tryd.sizeOf3
  v3 := Tryd.zeroValue3
  t4 := Tryd.underlying4
  a4 := Tryd.isAgg4
  z4 := Tryd.sizeOf4
  v4 := Tryd.zeroValue4
  t5 := Tryd.underlying5
  a5 := Tryd.isAgg5
  z5 := Tryd.sizeOf5
  v5 := Tryd.zeroValue5
  t9 := Tryd.underlying9
  a9 := Tryd.isAgg9
  z9 := Tryd.sizeOf9
  v9 := Tryd.zeroValue9
  t21 := Tryd.underlying21
  a21 := Tryd.isAgg21
  z21 := Tryd.sizeOf21
  v21 := Tryd.zeroValue21
  t22 := Tryd.underlying27
  a22 := Tryd.isAgg27
  z22 := Tryd.sizeOf27
  v22 := Tryd.zeroValue27
  t27 := Tryd.underlying62
  a27 := Tryd.isAgg62
  z27 := Tryd.sizeOf62
  t28 := Tryd.underlying63
  a28 := Tryd.isAgg63
  z28 := Tryd.sizeOf63
  v28 := Tryd.zeroValue63
  t31 := Tryd.underlying66
  a31 := Tryd.isAgg66
  z31 := Tryd.sizeOf66
  v31 := Tryd.zeroValue66
  t33 := Tryd.underlying76
  a33 := Tryd.isAgg76
  z33 := Tryd.sizeOf76
  v33 := Tryd.zeroValue76
  t36 := Tryd.underlying86
  a36 := Tryd.isAgg86
  z36 := Tryd.sizeOf86
  t37 := Tryd.underlying71
  a37 := Tryd.isAgg71
  z37 := Tryd.sizeOf71
  v37 := Tryd.zeroValue71
  t39 := Tryd.underlying88
  a39 := Tryd.isAgg88
  z39 := Tryd.sizeOf88
  v39 := Tryd.zeroValue88
  t40 := Tryd.underlying89
  a40 := Tryd.isAgg89
  z40 := Tryd.sizeOf89
  v40 := Tryd.zeroValue89 }

end Go.Proofs
