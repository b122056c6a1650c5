/- The contract of bytes.TrimRight that the library holds, laid at this program. -/
import Derived.Shelf.Bytes.SlTrim
import Derived.Test.YtjpcmmfmdoglkalGreatDoorProg
namespace Go.Proofs
open Go.Shelf
def Tryz.laysV7_ren : Go.Shelf.Ren := ⟨fun | 7 => 198 | 10 => 216 | 11 => 217 | 13 => 218 | 15 => 219 | 16 => 234 | 17 => 245 | 18 => 236 | 19 => 235 | 20 => 254 | 21 => 244 | n => n, fun | 22 => 89 | 23 => 190 | 25 => 198 | 26 => 199 | 27 => 200 | 28 => 201 | 29 => 202 | 30 => 203 | 31 => 204 | 32 => 97 | 33 => 214 | 34 => 215 | 35 => 216 | 36 => 238 | 37 => 211 | 38 => 239 | 39 => 240 | 40 => 241 | 41 => 123 | 42 => 263 | 43 => 264 | 44 => 265 | 45 => 266 | 46 => 267 | 47 => 103 | 48 => 223 | 49 => 268 | 50 => 269 | 51 => 270 | 52 => 197 | 53 => 271 | 54 => 272 | 55 => 273 | 56 => 274 | 57 => 209 | n => n, fun | 0 => 1 | 1 => 2 | n => n⟩
theorem Tryz.laysV7 : Go.Proofs.SlLaysV.n7 Tryz.prog Tryz.laysV7_ren := {
  mixed := by kernel_rfl
  f7 := Tryz.func198.trans (congrArg some (by kernel_rfl))
  f10 := Tryz.func216.trans (congrArg some (by kernel_rfl))
  f11 := Tryz.func217.trans (congrArg some (by kernel_rfl))
  f13 := Tryz.func218.trans (congrArg some (by kernel_rfl))
  f15 := Tryz.func219.trans (congrArg some (by kernel_rfl))
  f16 := Tryz.func234.trans (congrArg some (by kernel_rfl))
  f17 := Tryz.func245.trans (congrArg some (by kernel_rfl))
  f18 := Tryz.func236.trans (congrArg some (by kernel_rfl))
  f19 := Tryz.func235.trans (congrArg some (by kernel_rfl))
  f20 := Tryz.func254.trans (congrArg some (by kernel_rfl))
  f21 := Tryz.func244.trans (congrArg some (by kernel_rfl))
  t0 := Tryz.underlying0
  a0 := Tryz.isAgg0
  z0 := Tryz.sizeOf0
  v0 := Tryz.zeroValue0
  t3 := Tryz.underlying3
  a3 := Tryz.isAgg3
  z3 := Tryz.sizeOf3
  v3 := Tryz.zeroValue3
  t4 := Tryz.underlying4
  a4 := Tryz.isAgg4
  z4 := Tryz.sizeOf4
  v4 := Tryz.zeroValue4
  t5 := Tryz.underlying5
  a5 := Tryz.isAgg5
  z5 := Tryz.sizeOf5
  v5 := Tryz.zeroValue5
  t9 := Tryz.underlying9
  a9 := Tryz.isAgg9
  z9 := Tryz.sizeOf9
  v9 := Tryz.zeroValue9
  t21 := Tryz.underlying21
  a21 := Tryz.isAgg21
  z21 := Tryz.sizeOf21
  v21 := Tryz.zeroValue21
  t22 := Tryz.underlying89
  a22 := Tryz.isAgg89
  z22 := Tryz.sizeOf89
  v22 := Tryz.zeroValue89
  t27 := Tryz.underlying200
  a27 := Tryz.isAgg200
  z27 := Tryz.sizeOf200
  t28 := Tryz.underlying201
  a28 := Tryz.isAgg201
  z28 := Tryz.sizeOf201
  v28 := Tryz.zeroValue201
  t31 := Tryz.underlying204
  a31 := Tryz.isAgg204
  z31 := Tryz.sizeOf204
  v31 := Tryz.zeroValue204
  t33 := Tryz.underlying214
  a33 := Tryz.isAgg214
  z33 := Tryz.sizeOf214
  v33 := Tryz.zeroValue214
  t36 := Tryz.underlying238
  a36 := Tryz.isAgg238
  z36 := Tryz.sizeOf238
  t37 := Tryz.underlying211
  a37 := Tryz.isAgg211
  z37 := Tryz.sizeOf211
  v37 := Tryz.zeroValue211
  t39 := Tryz.underlying240
  a39 := Tryz.isAgg240
  z39 := Tryz.sizeOf240
  v39 := Tryz.zeroValue240
  t40 := Tryz.underlying241
  a40 := Tryz.isAgg241
  z40 := Tryz.sizeOf241
  v40 := Tryz.zeroValue241 }

end Go.Proofs
