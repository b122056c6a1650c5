/- impl.EscapeAt and what it calls. -/
import Derived.Shelf.Pu.SyntaxError
import Derived.Test.YtjpcmmfmdoglkalGreatDoorProg
import Derived.Test.YtjpcmmfmdoglkalGreatDoorShx
import Derived.Lib.Strings
import Derived.Lib.Walk
import Derived.Lib.ConvBytes
import Derived.Lib.AtoiAllMem
import Derived.Lib.Hide
import Derived.Laws.Strings3
import Derived.Laws.Closers25
import Derived.Laws.Closers25b
import Derived.BigCall
import Derived.BigGuard
import Derived.Lib.IfaceEq
import Derived.Test.YtjpcmmfmdoglkalGreatDoorSes
import Derived.Test.YtjpcmmfmdoglkalGreatDoorSdb
/- The contract of strconv.syntaxError that the library holds, laid at this program. -/
namespace Go.Proofs
open Go.Shelf
def Tryz.laysPu21_ren : Go.Shelf.Ren := ⟨fun | 21 => 257 | 25 => 262 | n => n, fun | 22 => 217 | 23 => 127 | 24 => 128 | 25 => 218 | 26 => 219 | 33 => 228 | 34 => 233 | 35 => 234 | 36 => 211 | 37 => 89 | 38 => 86 | 39 => 235 | 40 => 236 | 41 => 237 | 42 => 242 | 43 => 243 | 44 => 244 | 45 => 245 | 46 => 54 | 47 => 197 | 48 => 246 | 49 => 247 | 50 => 248 | 51 => 249 | 52 => 250 | 53 => 251 | 54 => 252 | 55 => 253 | 56 => 254 | 57 => 255 | 58 => 256 | 59 => 257 | 60 => 223 | 61 => 258 | 62 => 122 | 63 => 259 | 64 => 260 | 65 => 261 | 66 => 262 | 67 => 123 | 68 => 263 | 69 => 264 | 70 => 265 | 71 => 266 | 72 => 267 | 73 => 103 | 74 => 268 | 75 => 269 | 76 => 270 | 77 => 271 | 78 => 272 | 79 => 273 | 80 => 274 | 81 => 209 | n => n, fun | 0 => 3 | 1 => 4 | 2 => 5 | 3 => 6 | 4 => 7 | n => n⟩
theorem Tryz.laysPu21 : Go.Proofs.LaysPu.n21 Tryz.prog Tryz.laysPu21_ren := {
  mixed := by kernel_rfl
  f21 := Tryz.func257.trans (congrArg some (by kernel_rfl))
  f25 := Tryz.func262.trans (congrArg some (by kernel_rfl))
  t0 := Tryz.underlying0
  a0 := Tryz.isAgg0
  z0 := Tryz.sizeOf0
  v0 := Tryz.zeroValue0
  i0 := by kernel_rfl
  t3 := Tryz.underlying3
  a3 := Tryz.isAgg3
  z3 := Tryz.sizeOf3
  v3 := Tryz.zeroValue3
  i3 := by kernel_rfl
  t4 := Tryz.underlying4
  a4 := Tryz.isAgg4
  z4 := Tryz.sizeOf4
  v4 := Tryz.zeroValue4
  i4 := by kernel_rfl
  t5 := Tryz.underlying5
  a5 := Tryz.isAgg5
  z5 := Tryz.sizeOf5
  v5 := Tryz.zeroValue5
  i5 := by kernel_rfl
  t9 := Tryz.underlying9
  a9 := Tryz.isAgg9
  z9 := Tryz.sizeOf9
  v9 := Tryz.zeroValue9
  i9 := by kernel_rfl
  t24 := Tryz.underlying128
  a24 := Tryz.isAgg128
  z24 := Tryz.sizeOf128
  v24 := Tryz.zeroValue128
  i24 := by kernel_rfl
  t37 := Tryz.underlying89
  a37 := Tryz.isAgg89
  z37 := Tryz.sizeOf89
  v37 := Tryz.zeroValue89
  i37 := by kernel_rfl
  t39 := Tryz.underlying235
  a39 := Tryz.isAgg235
  z39 := Tryz.sizeOf235
  v39 := Tryz.zeroValue235
  i39 := by kernel_rfl
  t44 := Tryz.underlying244
  a44 := Tryz.isAgg244
  z44 := Tryz.sizeOf244
  v44 := Tryz.zeroValue244
  i44 := by kernel_rfl
  t47 := Tryz.underlying197
  a47 := Tryz.isAgg197
  z47 := Tryz.sizeOf197
  v47 := Tryz.zeroValue197
  i47 := by kernel_rfl
  t67 := Tryz.underlying123
  a67 := Tryz.isAgg123
  z67 := Tryz.sizeOf123
  v67 := Tryz.zeroValue123
  i67 := by kernel_rfl
  g0 := by kernel_rfl
  m0 := by kernel_rfl }

end Go.Proofs
/- strconv.ParseUint at base sixteen and 32 bits, of one to eight bytes. -/
namespace Go.Proofs.YtjpcmmfmdoglkalGreatDoor
open Go.ChangeShapes Go.WideShapes Go.ChangeAt Go.RowKit Go.Shelf
def lowN (y : Nat) : Nat := y ||| 32
theorem low_bits (y : Nat) (hy : y < 256) : bits .or .u8 (y : Int) 32 = (lowN y : Int) := by
  have h : ∀ z : Fin 256, bits .or .u8 (z.val : Int) 32 = (lowN z.val : Int) := by decide +kernel
  exact h ⟨y, hy⟩
theorem low_none {y : Nat} (hy : y < 256) (hd : dg y = none) : lowN y < 97 ∨ (103 ≤ lowN y ∧ lowN y ≤ 122) ∨ (122 < lowN y ∧ lowN y < 256) := by
  have h : ∀ z : Fin 256, dg z.val = none → lowN z.val < 97 ∨ (103 ≤ lowN z.val ∧ lowN z.val ≤ 122) ∨ (122 < lowN z.val ∧ lowN z.val < 256) := by decide +kernel
  exact h ⟨y, hy⟩ hd
theorem low_some {y d : Nat} (hy : y < 256) (hd : dg y = some d) : (48 ≤ y ∧ y ≤ 57 ∧ y = d + 48) ∨ ((y < 48 ∨ 57 < y) ∧ 97 ≤ lowN y ∧ lowN y ≤ 102 ∧ lowN y = d + 87) := by
  have h : ∀ z : Fin 256, ∀ d : Fin 16, dg z.val = some d.val → (48 ≤ z.val ∧ z.val ≤ 57 ∧ z.val = d.val + 48) ∨ ((z.val < 48 ∨ 57 < z.val) ∧ 97 ≤ lowN z.val ∧ lowN z.val ≤ 102 ∧ lowN z.val = d.val + 87) := by decide +kernel
  have h16 : d < 16 := by
    unfold dg at hd
    split at hd
    · injection hd with hd; omega
    · split at hd
      · injection hd with hd; omega
      · split at hd
        · injection hd with hd; omega
        · cases hd
  exact h ⟨y, hy⟩ ⟨d, h16⟩ hd
theorem lower_is (y m : Nat) (hy : y < 256) (hm : lowN y = m) (w : World) :
    Calls Tryz.prog 255 #[.int .u8 (y : Int)] w fun e w' => e = .returned (.int .u8 (m : Int)) ∧ w' = w := by
  have H : Hid (bits .or .u8 (y : Int) 32 = (m : Int)) := by show _ = _; rw [low_bits y hy, hm]
  clear hm
  go_enter Tryz.func255, Tryz.ntmps255
  go_wp2
  go_ret
  exact ⟨ret_int H.out, rfl⟩
/-- What ParseUint answers within: the number, or that it isn't one. -/
def puV (R : Int) : Value := if R < 0 then .tuple #[.int .u64 0, .iface 233 (.int .i64 2)] else .tuple #[.int .u64 R, .nilIface]
theorem puV_neg {R : Int} (h : R = -1) : puV R = .tuple #[.int .u64 0, .iface 233 (.int .i64 2)] := by subst h; rfl
theorem puV_nat (x : Nat) : puV (x : Int) = .tuple #[.int .u64 (x : Int), .nilIface] := by unfold puV; rw [if_neg (by omega)]
set_option maxHeartbeats 32000000 in
set_option maxRecDepth 100000 in
theorem inner_pu (t : ByteArray) (hne : t.size ≠ 0) (h8 : t.size ≤ 8) (w : World) (R : Int) (hR : hexGo t t.size 0 0 = R) :
    Calls Tryz.prog 246 #[.string t, .int .i64 16, .int .i64 32] w fun e w' => e = .returned (puV R) ∧ w' = Lib.bytesWorld w 5 t := by
  have eL : ∀ args w, (callFunc 255 args).run Tryz.prog w = .ok (.enter 255 args) w := enters_of Tryz.func255 (by kernel_rfl) rfl
  have hemp : t.toList.isEmpty = false := by
    rw [← decide_eq_emptyBytes]
    exact decide_eq_false (fun h => hne (by rw [h]; rfl))
  have hcv := Lib.run_convert_string_bytes (P := Tryz.prog) w 9 89 5 t (u := .string) Tryz.underlying9 Tryz.underlying89 Tryz.underlying5
  have hB : ∀ j, j < t.size → (Lib.bytesWorld w 5 t).cell? ⟨w.heap.size, j, none⟩ = some (.int .u8 (bt t j : Int)) := fun j hj => by
    rw [Lib.bytesWorld_cell w 5 t j hj, ← bt_get t j hj]
    have hl : j < t.data.toList.length := by simpa using hj
    simp [List.getD, List.getElem?_eq_getElem hl]
    rfl
  obtain ⟨W1, hW1⟩ : ∃ W1, W1 = Lib.bytesWorld w 5 t := ⟨_, rfl⟩
  rw [← hW1] at hcv hB ⊢
  have HB : Hid (∀ j, j < t.size → W1.cell? ⟨w.heap.size, j, none⟩ = some (.int .u8 (bt t j : Int))) := hB
  have HR : Hid (hexGo t t.size 0 0 = R) := hR
  clear hW1 hB hR
  have hmv : IntKind.u64.wrap (IntKind.u64.wrap 4294967296 - 1) = 4294967295 := by
    rw [IntKind.wrap_u64, IntKind.wrap_u64]
    decide
  go_enter Tryz.func246, Tryz.ntmps246
  go_wp2
  go_loop [12, 13, 101] (fun vu vn vi => ∃ (c k acc : Nat) (a : Int), vu = .bool false ∧ vn = .int .u64 a ∧ vi = .int .i64 k ∧ k + c = t.size ∧ Hid (a = (acc : Int)) ∧ Hid (acc < 16 ^ (8 - c)) ∧ Hid (hexGo t c k acc = R))
    (fun _ _ vi => t.size - (intOf vi).toNat)
  case atStart => exact ⟨t.size, 0, 0, 0, rfl, rfl, rfl, by omega, rfl, by show 0 < 16 ^ (8 - t.size); exact Nat.pow_pos (by decide), HR⟩
  case round =>
    obtain ⟨c, k, acc, a, rfl, rfl, rfl, hkc, HA, HX, HG⟩ := hrel
    cases c with
    | zero =>
      have hkk : k = t.size := by omega
      have HO : Hid (puV R = .tuple #[.int .u64 a, .nilIface]) := by
        show puV R = _
        rw [← HG.out, HA.out]
        exact puV_nat acc
      subst hkk
      clear HG HX hkc HA
      go_wp2
      go_ret2
      exact ⟨congrArg Ending.returned HO.out.symm, rfl⟩
    | succ c =>
      have hkn : k < t.size := by omega
      have hlt : (k : Int) < (t.size : Int) := by omega
      have hc7 : c < 8 := by omega
      have HX7 : Hid (acc < 16 ^ (7 - c)) := by
        have h := HX.out
        rw [show 8 - (c + 1) = 7 - c by omega] at h
        exact h
      have hx7 : acc ≤ 268435455 := by have h := HX7.out; have := pow_le c; omega
      have a0 : 0 ≤ a := by rw [HA.out]; omega
      have a1 : a ≤ 268435455 := by rw [HA.out]; omega
      have hc := HB.out k hkn
      have hy256 : bt t k < 256 := bt_lt t k
      obtain ⟨y, hy⟩ : ∃ y, bt t k = y := ⟨_, rfl⟩
      have HY : Hid (bt t k = y) := hy
      rw [hy] at hc hy256
      clear hy
      have hy256' : (y : Int) < 256 := by omega
      obtain ⟨m, hm⟩ : ∃ m, lowN y = m := ⟨_, rfl⟩
      have HM : Hid (lowN y = m) := hm
      have HY2 : Hid (y < 256) := hy256
      cases hd : dg y with
      | none =>
        have HO : Hid (puV R = .tuple #[.int .u64 0, .iface 233 (.int .i64 2)]) := by
          show puV R = _
          exact puV_neg (by rw [← HG.out, hex_bad hkn (by rw [HY.out]; exact hd)])
        have hnd : ¬ (48 ≤ y ∧ y ≤ 57) := by intro h; unfold dg at hd; rw [if_pos h] at hd; cases hd
        have hway := low_none hy256 hd
        rw [hm] at hway
        have h95 : ((y : Int) == 95) = true ∨ ((y : Int) == 95) = false := by cases ((y : Int) == 95) <;> simp
        clear HG HX HX7 hd hkc hx7 hm hy256
        have hdw : (y : Int) < 48 ∨ (48 ≤ (y : Int) ∧ ¬ (y : Int) ≤ 57) := by omega
        rcases h95 with h95 | h95
        all_goals (
          rcases hdw with h1 | ⟨h1, h2⟩
          all_goals (
            rcases hway with h | ⟨h, h'⟩ | ⟨h, h'⟩
            · have m1 : ¬ (97 : Int) ≤ (m : Int) := by omega
              clear h hnd
              go_wp2_with (go_at_fn 255; refine (lower_is y m HY2.out HM.out _).mono ?_; rintro e w' ⟨rfl, rfl⟩)
              go_ret2
              exact ⟨congrArg Ending.returned HO.out.symm, rfl⟩
            · have m1 : (97 : Int) ≤ (m : Int) := by omega
              have m2 : (m : Int) ≤ 122 := by omega
              have m3 : (103 : Int) ≤ (m : Int) := by omega
              clear h h' hnd
              go_wp2_with (go_at_fn 255; refine (lower_is y m HY2.out HM.out _).mono ?_; rintro e w' ⟨rfl, rfl⟩)
              go_ret2
              exact ⟨congrArg Ending.returned HO.out.symm, rfl⟩
            · have m1 : (97 : Int) ≤ (m : Int) := by omega
              have m2 : ¬ (m : Int) ≤ 122 := by omega
              clear h h' hnd
              go_wp2_with (go_at_fn 255; refine (lower_is y m HY2.out HM.out _).mono ?_; rintro e w' ⟨rfl, rfl⟩)
              go_ret2
              exact ⟨congrArg Ending.returned HO.out.symm, rfl⟩))
      | some d =>
        have hway := low_some hy256 hd
        rw [hm] at hway
        have hd15 : d ≤ 15 := by omega
        have HG2 : Hid (hexGo t c (k + 1) (acc * 16 + d) = R) := by
          show hexGo t c (k + 1) (acc * 16 + d) = R
          rw [← HG.out, hex_dig hkn (by rw [HY.out]; exact hd)]
        have HX2 : Hid (acc * 16 + d < 16 ^ (8 - c)) := pow_step hc7 HX7.out (by omega)
        have hkc2 : k + 1 + c = t.size := by omega
        have HK2 : Hid (k + 1 + c = t.size) := hkc2
        have h95 : ((y : Int) == 95) = false := by
          rw [beq_eq_false_iff_ne]
          intro e
          have : y = 95 := by omega
          subst this
          cases hd
        clear HG HX HX7 hd hkc hx7 hm hy256 hkc2
        rcases hway with ⟨h1, h2, h3⟩ | ⟨h0, h1, h2, h3⟩
        · have m1 : (48 : Int) ≤ (y : Int) := by omega
          have m2 : (y : Int) ≤ 57 := by omega
          have HV : Hid (a * 16 + ((y : Int) - 48) = ((acc * 16 + d : Nat) : Int)) := by show _ = _; rw [HA.out]; omega
          clear h1 h2 h3 hd15 HA
          go_wp2
          go_round
          case rel => exact ⟨c, k + 1, acc * 16 + d, a * 16 + ((y : Int) - 48), rfl, rfl, by go_num, HK2.out, HV, HX2, HG2⟩
          case measure => simp [intOf]; omega
        · have m1 : (97 : Int) ≤ (m : Int) := by omega
          have m2 : (m : Int) ≤ 102 := by omega
          have HV : Hid (a * 16 + ((m : Int) - 97 + 10) = ((acc * 16 + d : Nat) : Int)) := by show _ = _; rw [HA.out]; omega
          have hdw : (y : Int) < 48 ∨ (48 ≤ (y : Int) ∧ ¬ (y : Int) ≤ 57) := by omega
          clear h0 h1 h2 h3 hd15 HA
          rcases hdw with h1 | ⟨h1, h2⟩
          all_goals (
            go_wp2_with (go_at_fn 255; refine (lower_is y m HY2.out HM.out _).mono ?_; rintro e w' ⟨rfl, rfl⟩)
            go_round
            case rel => exact ⟨c, k + 1, acc * 16 + d, a * 16 + ((m : Int) - 97 + 10), rfl, rfl, by go_num, HK2.out, HV, HX2, HG2⟩
            case measure => simp [intOf]; omega)
end Go.Proofs.YtjpcmmfmdoglkalGreatDoor
/- impl's hexAt, signNumber, digitsBehind. -/
namespace Go.Proofs.YtjpcmmfmdoglkalGreatDoor
open Go.ChangeShapes Go.WideShapes Go.ChangeAt Go.RowKit Go.Shelf
/-- The variable ErrSyntax holds an error. -/
def ErrVar (w : World) : Prop := ∃ te pe, w.cell? ⟨3, 0, none⟩ = some (.iface te pe)
theorem ErrVar.later {w w' : World} (h : ErrVar w) (hb : Below w.heap.size w w') : ErrVar w' := by
  obtain ⟨te, pe, h⟩ := h
  exact ⟨te, pe, (hb.cell (World.block_lt_of_cell? _ _ h)).trans h⟩
theorem toError_syn (fn s : ByteArray) (w : World) (hs : s.size ≤ 1048576) (hv : ErrVar w) :
    Calls Tryz.prog 247 #[.string fn, .string s, .int .i64 16, .int .i64 32, .iface 233 (.int .i64 2)] w fun e w' => (∃ N, e = .returned (.iface 235 (.pointer (some ⟨N, 0, none⟩)))) ∧ Below w.heap.size w w' := by
  obtain ⟨te, pe, hv⟩ := hv
  have heq : ∀ W, (binOp .eql 128 (.iface 233 (.int .i64 2)) (.iface 233 (.int .i64 2))).run Tryz.prog W = .ok (.bool true) W := fun W => Lib.run_eql_iface_int W 2 2 Tryz.underlying128 (by kernel_rfl) Tryz.underlying233
  have cS : Calls Tryz.prog 257 #[.string fn, .string s] w _ := AnyPu.strconv_syntaxError Tryz.laysPu21 fn s (.iface te pe) w (by omega) hv (.inr ⟨te, pe, rfl⟩)
  go_enter Tryz.func247, Tryz.ntmps247
  go_wp2_with fail
  refine cS.mono ?_
  rintro e w2 ⟨N, rfl, _, _, h3⟩
  go_wp2_with fail
  go_ret
  exact ⟨⟨N, rfl⟩, h3⟩
def PuOut (R : Int) (e : Ending) : Prop := if R < 0 then ∃ N, e = .returned (.tuple #[.int .u64 0, .iface 235 (.pointer (some ⟨N, 0, none⟩))]) else e = .returned (.tuple #[.int .u64 R, .nilIface])
theorem pu16 (t : ByteArray) (hne : t.size ≠ 0) (h8 : t.size ≤ 8) (w : World) (R : Int) (hR : hexGo t t.size 0 0 = R) (hv : ErrVar w) :
    Calls Tryz.prog 237 #[.string t, .int .i64 16, .int .i64 32] w fun e w' => PuOut R e ∧ Below w.heap.size w w' := by
  have cI := inner_pu t hne h8 w R hR
  have HV : Hid (ErrVar w) := hv
  clear hR hv
  by_cases hn : R < 0
  · have e : puV R = .tuple #[.int .u64 0, .iface 233 (.int .i64 2)] := by unfold puV; rw [if_pos hn]
    rw [e] at cI
    have HO : Hid (∀ N, PuOut R (.returned (.tuple #[.int .u64 0, .iface 235 (.pointer (some ⟨N, 0, none⟩))]))) := fun N => by unfold PuOut; rw [if_pos hn]; exact ⟨N, rfl⟩
    clear e hn
    go_enter Tryz.func237, Tryz.ntmps237
    go_wp2_with fail
    refine cI.mono ?_
    rintro e w1 ⟨rfl, hw⟩
    have hb1 : Below w.heap.size w w1 := by rw [hw]; exact Lib.bytesWorld_below _ _ _
    have HV1 : Hid (ErrVar w1) := HV.out.later hb1
    have HB1 : Hid (Below w.heap.size w w1) := hb1
    clear hw hb1
    go_wp2_with fail
    refine (toError_syn _ t _ (by omega) HV1.out).mono ?_
    rintro e w2 ⟨⟨N, rfl⟩, h3⟩
    go_wp2_with fail
    go_ret2
    exact ⟨HO.out N, HB1.out.trans (h3.mono HB1.out.size)⟩
  · have e : puV R = .tuple #[.int .u64 R, .nilIface] := by unfold puV; rw [if_neg hn]
    rw [e] at cI
    have HO : Hid (PuOut R (.returned (.tuple #[.int .u64 R, .nilIface]))) := by show PuOut _ _; unfold PuOut; rw [if_neg hn]
    clear e hn
    go_enter Tryz.func237, Tryz.ntmps237
    go_wp2_with fail
    refine cI.mono ?_
    rintro e w1 ⟨rfl, hw⟩
    have hb1 : Below w.heap.size w w1 := by rw [hw]; exact Lib.bytesWorld_below _ _ _
    clear hw
    go_wp2_with fail
    go_ret2
    exact ⟨HO.out, hb1⟩
theorem bt_extract (s : ByteArray) (i j k : Nat) (hj : j ≤ s.size) (hk : i + k < j) : bt (s.extract i j) k = bt s (i + k) := by
  unfold bt
  congr 1
  rw [getElem!_pos (s.extract i j).data k (by show k < (s.extract i j).size; rw [ByteArray.size_extract]; omega), getElem!_pos s.data (i + k) (by show i + k < s.size; omega)]
  simp [ByteArray.data_extract]
theorem hex_extract (s : ByteArray) (i : Nat) : ∀ (c k x : Nat), i + k + c ≤ s.size → hexGo (s.extract i (i + k + c)) c k x = hexGo s c (i + k) x
  | 0, k, x, _ => rfl
  | c + 1, k, x, h => by
    have hz : (s.extract i (i + k + (c + 1))).size = k + (c + 1) := by rw [ByteArray.size_extract]; omega
    rw [hexGo, hexGo, if_neg (by omega), if_neg (by omega), bt_extract s i _ k h (by omega)]
    cases dg (bt s (i + k)) with
    | none => rfl
    | some d =>
      have ih := hex_extract s i c (k + 1) (x * 16 + d) (by omega)
      rw [show i + (k + 1) + c = i + k + (c + 1) by omega, show i + (k + 1) = i + k + 1 by omega] at ih
      exact ih
theorem hex_short (s : ByteArray) : ∀ (c i x : Nat), i ≤ s.size → s.size < i + c → hexGo s c i x = -1
  | 0, i, x, _, h => by omega
  | c + 1, i, x, hi, h => by
    by_cases e : s.size ≤ i
    · exact hex_end e
    · rw [hexGo, if_neg e]
      cases dg (bt s i) with
      | none => rfl
      | some d => exact hex_short s c (i + 1) _ (by omega) (by omega)
theorem hex_up (s : ByteArray) : ∀ (c i x : Nat), c ≤ 8 → x < 16 ^ (8 - c) → hexGo s c i x < 4294967296
  | 0, i, x, _, h => by
    have : (16 : Nat) ^ (8 - 0) = 4294967296 := by decide
    rw [hexGo]
    omega
  | c + 1, i, x, hc, h => by
    rw [hexGo]
    split
    · omega
    · split
      · omega
      · rename_i d hd
        have hd16 : d < 16 := by
          unfold dg at hd
          split at hd
          · injection hd with hd; omega
          · split at hd
            · injection hd with hd; omega
            · split at hd
              · injection hd with hd; omega
              · cases hd
        exact hex_up s c (i + 1) _ (by omega) (pow_step (by omega) (by rw [show 7 - c = 8 - (c + 1) by omega]; exact h) hd16)
theorem hex_low (s : ByteArray) : ∀ (c i x : Nat), -1 ≤ hexGo s c i x
  | 0, i, x => by rw [hexGo]; omega
  | c + 1, i, x => by
    rw [hexGo]
    split
    · omega
    · split
      · omega
      · exact hex_low s c _ _
theorem hexAt_any (s : ByteArray) (p n : Nat) (w : World) (R : Int) (hs : s.size ≤ 1048576) (hp : p ≤ s.size) (hn0 : 0 < n) (hn : n ≤ 8) (hv : ErrVar w) (hR : hexGo s n p 0 = R) :
    Calls Tryz.prog 222 #[.string s, .int .i64 (p : Int), .int .i64 ((p + n : Nat) : Int)] w fun e w' => e = .returned (.int .i64 R) ∧ Below w.heap.size w w' := by
  obtain ⟨q, hq⟩ : ∃ q, p + n = q := ⟨_, rfl⟩
  rw [hq]
  by_cases hl : s.size < q
  · have hl' : (s.size : Int) < (q : Int) := by omega
    have HO : Hid (R = -1) := by show R = -1; rw [← hR]; exact hex_short s n p 0 hp (by omega)
    clear hR hv hq
    go_enter Tryz.func222, Tryz.ntmps222
    go_wp2_with fail
    go_ret
    exact ⟨ret_int HO.out.symm, Below.refl _ _⟩
  · have hl' : ¬ (s.size : Int) < (q : Int) := by omega
    have hz : (s.extract p q).size = n := by rw [ByteArray.size_extract]; omega
    have hx : hexGo (s.extract p q) (s.extract p q).size 0 0 = R := by
      rw [hz, ← hR]
      have := hex_extract s p n 0 0 (by omega)
      rw [Nat.add_zero, hq] at this
      exact this
    have cP := pu16 (s.extract p q) (by omega) (by omega) w R hx hv
    have hup : R < 4294967296 := by rw [← hR]; exact hex_up s n p 0 hn (Nat.pow_pos (by decide))
    have hlow : -1 ≤ R := by rw [← hR]; exact hex_low s n p 0
    have hpq : (p : Int) ≤ (q : Int) := by omega
    clear hx hz hR hv hq
    by_cases hneg : R < 0
    · have HO : Hid (R = -1) := by show R = -1; omega
      have HN : Hid (R < 0) := hneg
      clear hneg hup hlow
      go_enter Tryz.func222, Tryz.ntmps222
      go_wp2_with fail
      refine cP.mono ?_
      rintro e w1 ⟨h1, hb1⟩
      unfold PuOut at h1
      rw [if_pos HN.out] at h1
      obtain ⟨N, rfl⟩ := h1
      clear cP
      go_wp2_with fail
      go_ret
      exact ⟨ret_int HO.out.symm, hb1⟩
    · have HN : Hid (¬ R < 0) := hneg
      have h0 : 0 ≤ R := by omega
      clear hlow hneg
      go_enter Tryz.func222, Tryz.ntmps222
      go_wp2_with fail
      refine cP.mono ?_
      rintro e w1 ⟨h1, hb1⟩
      unfold PuOut at h1
      rw [if_neg (by have := HN.out; omega)] at h1
      subst h1
      clear cP
      go_wp2_with fail
      go_ret
      exact ⟨by first | rfl | exact ret_int (by omega), hb1⟩
/-- What a byte behind a backslash stands for by itself. -/
def snN (x : Nat) : Int := match escT x with
  | some r => (r : Int)
  | none => -1
end Go.Proofs.YtjpcmmfmdoglkalGreatDoor
/- impl.signNumber and impl.digitsBehind. -/
namespace Go.Proofs.YtjpcmmfmdoglkalGreatDoor
open Go.ChangeShapes Go.WideShapes Go.ChangeAt Go.RowKit
theorem escT_has {x : Nat} (h : escT x ≠ none) : x = 48 ∨ x = 97 ∨ x = 98 ∨ x = 116 ∨ x = 9 ∨ x = 110 ∨ x = 118 ∨ x = 102 ∨ x = 114 ∨ x = 101 ∨ x = 32 ∨ x = 34 ∨ x = 47 ∨ x = 92 ∨ x = 78 ∨ x = 95 ∨ x = 76 ∨ x = 80 := by
  refine Classical.byContradiction fun hc => h ?_
  unfold escT
  rw [if_neg (by omega), if_neg (by omega), if_neg (by omega), if_neg (by omega), if_neg (by omega), if_neg (by omega), if_neg (by omega), if_neg (by omega), if_neg (by omega), if_neg (by omega), if_neg (by omega), if_neg (by omega), if_neg (by omega), if_neg (by omega), if_neg (by omega), if_neg (by omega), if_neg (by omega), if_neg (by omega)]
theorem escT_not {x : Nat} (h : escT x = none) : x ≠ 48 ∧ x ≠ 97 ∧ x ≠ 98 ∧ x ≠ 116 ∧ x ≠ 9 ∧ x ≠ 110 ∧ x ≠ 118 ∧ x ≠ 102 ∧ x ≠ 114 ∧ x ≠ 101 ∧ x ≠ 32 ∧ x ≠ 34 ∧ x ≠ 47 ∧ x ≠ 92 ∧ x ≠ 78 ∧ x ≠ 95 ∧ x ≠ 76 ∧ x ≠ 80 := by
  unfold escT at h
  refine ⟨?_, ?_, ?_, ?_, ?_, ?_, ?_, ?_, ?_, ?_, ?_, ?_, ?_, ?_, ?_, ?_, ?_, ?_⟩ <;> (rintro rfl; simp at h)
set_option maxHeartbeats 4000000 in
theorem signNumber_any (y : Nat) (w : World) (r : Int) (hr : snN y = r) : Calls Tryz.prog 220 #[.int .u8 (y : Int)] w fun e w' => e = .returned (.int .i64 r) ∧ w' = w := by
  by_cases h : escT y = none
  · have HO : Hid (r = -1) := by show r = -1; rw [← hr]; unfold snN; rw [h]
    obtain ⟨n48, n97, n98, n116, n9, n110, n118, n102, n114, n101, n32, n34, n47, n92, n78, n95, n76, n80⟩ := escT_not h
    have t48 : ((y : Int) == 48) = false := by rw [beq_eq_false_iff_ne]; omega
    have t97 : ((y : Int) == 97) = false := by rw [beq_eq_false_iff_ne]; omega
    have t98 : ((y : Int) == 98) = false := by rw [beq_eq_false_iff_ne]; omega
    have t116 : ((y : Int) == 116) = false := by rw [beq_eq_false_iff_ne]; omega
    have t9 : ((y : Int) == 9) = false := by rw [beq_eq_false_iff_ne]; omega
    have t110 : ((y : Int) == 110) = false := by rw [beq_eq_false_iff_ne]; omega
    have t118 : ((y : Int) == 118) = false := by rw [beq_eq_false_iff_ne]; omega
    have t102 : ((y : Int) == 102) = false := by rw [beq_eq_false_iff_ne]; omega
    have t114 : ((y : Int) == 114) = false := by rw [beq_eq_false_iff_ne]; omega
    have t101 : ((y : Int) == 101) = false := by rw [beq_eq_false_iff_ne]; omega
    have t32 : ((y : Int) == 32) = false := by rw [beq_eq_false_iff_ne]; omega
    have t34 : ((y : Int) == 34) = false := by rw [beq_eq_false_iff_ne]; omega
    have t47 : ((y : Int) == 47) = false := by rw [beq_eq_false_iff_ne]; omega
    have t92 : ((y : Int) == 92) = false := by rw [beq_eq_false_iff_ne]; omega
    have t78 : ((y : Int) == 78) = false := by rw [beq_eq_false_iff_ne]; omega
    have t95 : ((y : Int) == 95) = false := by rw [beq_eq_false_iff_ne]; omega
    have t76 : ((y : Int) == 76) = false := by rw [beq_eq_false_iff_ne]; omega
    have t80 : ((y : Int) == 80) = false := by rw [beq_eq_false_iff_ne]; omega
    clear h hr n48 n97 n98 n116 n9 n110 n118 n102 n114 n101 n32 n34 n47 n92 n78 n95 n76 n80
    go_enter Tryz.func220, Tryz.ntmps220
    go_wp2_with fail
    go_ret
    exact ⟨ret_int HO.out.symm, rfl⟩
  · rcases escT_has h with rfl | rfl | rfl | rfl | rfl | rfl | rfl | rfl | rfl | rfl | rfl | rfl | rfl | rfl | rfl | rfl | rfl | rfl
    · obtain rfl : r = 0 := by rw [← hr]; rfl
      clear h hr
      show Calls Tryz.prog 220 #[.int .u8 48] w _
      go_enter Tryz.func220, Tryz.ntmps220
      go_wp2_with fail
      go_ret
      exact ⟨rfl, rfl⟩
    · obtain rfl : r = 7 := by rw [← hr]; rfl
      clear h hr
      show Calls Tryz.prog 220 #[.int .u8 97] w _
      go_enter Tryz.func220, Tryz.ntmps220
      go_wp2_with fail
      go_ret
      exact ⟨rfl, rfl⟩
    · obtain rfl : r = 8 := by rw [← hr]; rfl
      clear h hr
      show Calls Tryz.prog 220 #[.int .u8 98] w _
      go_enter Tryz.func220, Tryz.ntmps220
      go_wp2_with fail
      go_ret
      exact ⟨rfl, rfl⟩
    · obtain rfl : r = 9 := by rw [← hr]; rfl
      clear h hr
      show Calls Tryz.prog 220 #[.int .u8 116] w _
      go_enter Tryz.func220, Tryz.ntmps220
      go_wp2_with fail
      go_ret
      exact ⟨rfl, rfl⟩
    · obtain rfl : r = 9 := by rw [← hr]; rfl
      clear h hr
      show Calls Tryz.prog 220 #[.int .u8 9] w _
      go_enter Tryz.func220, Tryz.ntmps220
      go_wp2_with fail
      go_ret
      exact ⟨rfl, rfl⟩
    · obtain rfl : r = 10 := by rw [← hr]; rfl
      clear h hr
      show Calls Tryz.prog 220 #[.int .u8 110] w _
      go_enter Tryz.func220, Tryz.ntmps220
      go_wp2_with fail
      go_ret
      exact ⟨rfl, rfl⟩
    · obtain rfl : r = 11 := by rw [← hr]; rfl
      clear h hr
      show Calls Tryz.prog 220 #[.int .u8 118] w _
      go_enter Tryz.func220, Tryz.ntmps220
      go_wp2_with fail
      go_ret
      exact ⟨rfl, rfl⟩
    · obtain rfl : r = 12 := by rw [← hr]; rfl
      clear h hr
      show Calls Tryz.prog 220 #[.int .u8 102] w _
      go_enter Tryz.func220, Tryz.ntmps220
      go_wp2_with fail
      go_ret
      exact ⟨rfl, rfl⟩
    · obtain rfl : r = 13 := by rw [← hr]; rfl
      clear h hr
      show Calls Tryz.prog 220 #[.int .u8 114] w _
      go_enter Tryz.func220, Tryz.ntmps220
      go_wp2_with fail
      go_ret
      exact ⟨rfl, rfl⟩
    · obtain rfl : r = 27 := by rw [← hr]; rfl
      clear h hr
      show Calls Tryz.prog 220 #[.int .u8 101] w _
      go_enter Tryz.func220, Tryz.ntmps220
      go_wp2_with fail
      go_ret
      exact ⟨rfl, rfl⟩
    · obtain rfl : r = 32 := by rw [← hr]; rfl
      clear h hr
      show Calls Tryz.prog 220 #[.int .u8 32] w _
      go_enter Tryz.func220, Tryz.ntmps220
      go_wp2_with fail
      go_ret
      exact ⟨rfl, rfl⟩
    · obtain rfl : r = 34 := by rw [← hr]; rfl
      clear h hr
      show Calls Tryz.prog 220 #[.int .u8 34] w _
      go_enter Tryz.func220, Tryz.ntmps220
      go_wp2_with fail
      go_ret
      exact ⟨rfl, rfl⟩
    · obtain rfl : r = 47 := by rw [← hr]; rfl
      clear h hr
      show Calls Tryz.prog 220 #[.int .u8 47] w _
      go_enter Tryz.func220, Tryz.ntmps220
      go_wp2_with fail
      go_ret
      exact ⟨rfl, rfl⟩
    · obtain rfl : r = 92 := by rw [← hr]; rfl
      clear h hr
      show Calls Tryz.prog 220 #[.int .u8 92] w _
      go_enter Tryz.func220, Tryz.ntmps220
      go_wp2_with fail
      go_ret
      exact ⟨rfl, rfl⟩
    · obtain rfl : r = 133 := by rw [← hr]; rfl
      clear h hr
      show Calls Tryz.prog 220 #[.int .u8 78] w _
      go_enter Tryz.func220, Tryz.ntmps220
      go_wp2_with fail
      go_ret
      exact ⟨rfl, rfl⟩
    · obtain rfl : r = 160 := by rw [← hr]; rfl
      clear h hr
      show Calls Tryz.prog 220 #[.int .u8 95] w _
      go_enter Tryz.func220, Tryz.ntmps220
      go_wp2_with fail
      go_ret
      exact ⟨rfl, rfl⟩
    · obtain rfl : r = 8232 := by rw [← hr]; rfl
      clear h hr
      show Calls Tryz.prog 220 #[.int .u8 76] w _
      go_enter Tryz.func220, Tryz.ntmps220
      go_wp2_with fail
      go_ret
      exact ⟨rfl, rfl⟩
    · obtain rfl : r = 8233 := by rw [← hr]; rfl
      clear h hr
      show Calls Tryz.prog 220 #[.int .u8 80] w _
      go_enter Tryz.func220, Tryz.ntmps220
      go_wp2_with fail
      go_ret
      exact ⟨rfl, rfl⟩
theorem digits_any (y : Nat) (w : World) (r : Nat) (hr : escN y = r) : Calls Tryz.prog 221 #[.int .u8 (y : Int)] w fun e w' => e = .returned (.int .i64 (r : Int)) ∧ w' = w := by
  by_cases h1 : y = 120
  · subst h1
    obtain rfl : r = 2 := by rw [← hr]; rfl
    clear hr
    show Calls Tryz.prog 221 #[.int .u8 120] w _
    go_enter Tryz.func221, Tryz.ntmps221
    go_wp2_with fail
    go_ret
    exact ⟨rfl, rfl⟩
  · by_cases h2 : y = 117
    · subst h2
      obtain rfl : r = 4 := by rw [← hr]; rfl
      clear hr h1
      show Calls Tryz.prog 221 #[.int .u8 117] w _
      go_enter Tryz.func221, Tryz.ntmps221
      go_wp2_with fail
      go_ret
      exact ⟨rfl, rfl⟩
    · by_cases h3 : y = 85
      · subst h3
        obtain rfl : r = 8 := by rw [← hr]; rfl
        clear hr h1 h2
        show Calls Tryz.prog 221 #[.int .u8 85] w _
        go_enter Tryz.func221, Tryz.ntmps221
        go_wp2_with fail
        go_ret
        exact ⟨rfl, rfl⟩
      · obtain rfl : r = 0 := by rw [← hr]; unfold escN; rw [if_neg h1, if_neg h2, if_neg h3]
        have t1 : ((y : Int) == 120) = false := by rw [beq_eq_false_iff_ne]; omega
        have t2 : ((y : Int) == 117) = false := by rw [beq_eq_false_iff_ne]; omega
        have t3 : ((y : Int) == 85) = false := by rw [beq_eq_false_iff_ne]; omega
        clear hr h1 h2 h3
        go_enter Tryz.func221, Tryz.ntmps221
        go_wp2_with fail
        go_ret
        exact ⟨rfl, rfl⟩
end Go.Proofs.YtjpcmmfmdoglkalGreatDoor
/- The contract of impl.EscapeAt. -/
namespace Go.Proofs.YtjpcmmfmdoglkalGreatDoor
open Go.ChangeShapes Go.WideShapes Go.ChangeAt Go.RowKit
theorem impl_rb_is (r : Int) (t : ByteArray) (w : World) (h : rb r = t) : Calls Tryz.prog 223 #[.int .i64 r] w fun e w' => e = .returned (.string t) ∧ w' = w := by
  subst h; exact impl_rb r w
theorem rb_some (r : Int) (h0 : 0 ≤ r) (h1 : r < 55296) : rb r ≠ ByteArray.empty := by
  intro e
  have hz : (rb r).size = 0 := by rw [e]; rfl
  by_cases a : r < 128
  · rw [rb_1 r h0 a] at hz; exact absurd hz (by show ¬ 1 = 0; omega)
  · by_cases b : r < 2048
    · rw [rb_2 r (by omega) b] at hz; exact absurd hz (by show ¬ 2 = 0; omega)
    · rw [rb_3 r (by omega) (by omega) (.inl h1)] at hz; exact absurd hz (by show ¬ 3 = 0; omega)
theorem escT_up {x r : Nat} (h : escT x = some r) : r < 55296 := by
  rcases escT_has (by rw [h]; simp) with rfl | rfl | rfl | rfl | rfl | rfl | rfl | rfl | rfl | rfl | rfl | rfl | rfl | rfl | rfl | rfl | rfl | rfl <;> (injection h with h; omega)
theorem escN_T {x : Nat} (h : escN x ≠ 0) : escT x = none := by
  have hw : x = 120 ∨ x = 117 ∨ x = 85 := by
    refine Classical.byContradiction fun hc => h ?_
    unfold escN
    rw [if_neg (by omega), if_neg (by omega), if_neg (by omega)]
  rcases hw with rfl | rfl | rfl <;> rfl
theorem escN_8 (x : Nat) : escN x ≤ 8 := by unfold escN; split <;> (try split) <;> (try split) <;> omega
/-- EscapeAt by the number that the signs stand for. -/
theorem esc_by {s : ByteArray} {k : Nat} (hl : k + 1 < s.size) (hq : bt s k = 92) (r : Int) (hr : r = if escN (bt s (k + 1)) = 0 then snN (bt s (k + 1)) else hexGo s (escN (bt s (k + 1))) (k + 2) 0) :
    escAt s k = if rb r = ByteArray.empty then (ByteArray.empty, 0) else (rb r, k + 2 + escN (bt s (k + 1))) := by
  unfold escAt
  rw [if_neg (by omega)]
  by_cases hn : escN (bt s (k + 1)) = 0
  · rw [if_pos hn] at hr
    cases ht : escT (bt s (k + 1)) with
    | some x =>
      have hx : r = (x : Int) := by rw [hr]; unfold snN; rw [ht]
      have hz := rb_some r (by omega) (by have := escT_up ht; omega)
      rw [if_neg hz, hn, hx]
    | none =>
      have hx : r = -1 := by rw [hr]; unfold snN; rw [ht]
      have hz : rb r = ByteArray.empty := rb_bad r (.inl (by omega))
      simp only [hn, if_true]
      rw [if_pos hz]
  · rw [if_neg hn] at hr
    rw [escN_T hn]
    simp only []
    rw [if_neg hn, hr]
set_option maxHeartbeats 4000000 in
theorem impl_escapeAt (s : ByteArray) (p : Int) (w : World) (hs : s.size ≤ 1048576) (hv : ErrVar w) (T : ByteArray) (E : Nat) (hr : escAt s (cl s.size p) = (T, E)) :
    Calls Tryz.prog 199 #[.string s, .int .i64 p] w fun e w' => e = .returned (.tuple #[.string T, .int .i64 (E : Int)]) ∧ Below w.heap.size w w' := by
  have hcl := cl_le s.size p
  have hmx : s.size ≤ mx := by unfold mx; omega
  have HR : Hid (escAt s (cl s.size p) = (T, E)) := hr
  have HV : Hid (ErrVar w) := hv
  clear hr hv
  go_enter Tryz.func199, Tryz.ntmps199
  go_wp2_with fail
  refine (bring_any _ _ _ hmx).mono ?_
  rintro e w ⟨rfl, rfl⟩
  generalize cl s.size p = k at *
  by_cases hlt : k + 1 < s.size
  · have hl1 : ¬ (s.size : Int) ≤ (k : Int) + 1 := by omega
    have hk : k < s.size := by omega
    by_cases hq : (s[k]'hk).toNat = 92
    · have hq' : (((s[k]'hk).toNat : Int) != 92) = false := by rw [hq]; rfl
      have hQ : bt s k = 92 := by rw [← bt_get s k hk]; exact hq
      have hbt : (s[k + 1]'hlt).toNat = bt s (k + 1) := bt_get s (k + 1) hlt
      obtain ⟨r, hr⟩ : ∃ r, r = if escN (bt s (k + 1)) = 0 then snN (bt s (k + 1)) else hexGo s (escN (bt s (k + 1))) (k + 2) 0 := ⟨_, rfl⟩
      have HE : Hid (escAt s k = if rb r = ByteArray.empty then (ByteArray.empty, 0) else (rb r, k + 2 + escN (bt s (k + 1)))) := esc_by hlt hQ r hr
      obtain ⟨y, hy⟩ : ∃ y, (s[k + 1]'hlt).toNat = y := ⟨_, rfl⟩
      have hby : bt s (k + 1) = y := by rw [← hbt]; exact hy
      rw [hby] at hr
      have HBY : Hid (bt s (k + 1) = y) := hby
      clear hq hQ hbt hby
      obtain ⟨t, ht⟩ : ∃ t, rb r = t := ⟨_, rfl⟩
      have HT : Hid (rb r = t) := ht
      clear ht
      obtain ⟨n0, hn0⟩ : ∃ n0, snN y = n0 := ⟨_, rfl⟩
      have HN0 : Hid (snN y = n0) := hn0
      obtain ⟨m, hm⟩ : ∃ m, escN y = m := ⟨_, rfl⟩
      have HM : Hid (escN y = m) := hm
      have hm8 : m ≤ 8 := by rw [← hm]; exact escN_8 y
      rw [hm] at hr
      have HRR : Hid (r = if m = 0 then snN y else hexGo s m (k + 2) 0) := hr
      clear hn0 hm hr
      by_cases h0 : m = 0
      · subst h0
        have HRN : Hid (n0 = r) := by show n0 = r; have h := HRR.out; rw [if_pos rfl, HN0.out] at h; exact h.symm
        go_wp2_with fail
        refine (signNumber_any y _ n0 HN0.out).mono ?_
        rintro e w1 ⟨rfl, rfl⟩
        go_wp2_with fail
        refine (digits_any y _ 0 HM.out).mono ?_
        rintro e w1 ⟨rfl, rfl⟩
        go_wp2_with fail
        refine (impl_rb_is n0 t _ (by rw [HRN.out]; exact HT.out)).mono ?_
        rintro e w1 ⟨rfl, rfl⟩
        by_cases hz : t = ByteArray.empty
        · subst hz
          have HO : Hid ((ByteArray.empty, 0) = (T, E)) := by show _ = (T, E); rw [← HR.out, HE.out, if_pos HT.out]
          have he := empty_l
          go_wp2_with fail
          go_ret2
          have e0 := HO.out
          injection e0 with e1 e2
          subst e1
          subst e2
          exact ⟨rfl, Below.refl _ _⟩
        · have he := nonempty_l hz
          have HO : Hid ((t, k + 2) = (T, E)) := by show _ = (T, E); rw [← HR.out, HE.out, if_neg (by rw [HT.out]; exact hz), HT.out, HBY.out, HM.out]
          clear hz
          go_wp2_with fail
          go_ret2
          have e0 := HO.out
          injection e0 with e1 e2
          subst e1
          subst e2
          exact ⟨by first | rfl | simp, Below.refl _ _⟩
      · have h0' : (0 : Int) < (m : Int) := by omega
        have HRN : Hid (hexGo s m (k + 2) 0 = r) := by show _ = r; have h := HRR.out; rw [if_neg h0] at h; exact h.symm
        have HM0 : Hid (0 < m) := by show 0 < m; omega
        have EQ : Hid ((k : Int) + 2 + (m : Int) = ((k + 2 + m : Nat) : Int)) := by show _ = _; omega
        have EP : Hid ((k : Int) + 2 = ((k + 2 : Nat) : Int)) := by show _ = _; omega
        have cH : Calls Tryz.prog 222 #[.string s, .int .i64 ((k : Int) + 2), .int .i64 ((k : Int) + 2 + (m : Int))] w fun e w' => e = .returned (.int .i64 r) ∧ Below w.heap.size w w' := by
          rw [EQ.out, EP.out]
          exact hexAt_any s (k + 2) m w r hs (by omega) HM0.out hm8 HV.out HRN.out
        clear h0 EQ EP
        go_wp2_with fail
        refine (signNumber_any y _ n0 HN0.out).mono ?_
        rintro e w1 ⟨rfl, rfl⟩
        go_wp2_with fail
        refine (digits_any y _ m HM.out).mono ?_
        rintro e w1 ⟨rfl, rfl⟩
        go_wp2_with fail
        refine cH.mono ?_
        rintro e w1 ⟨rfl, hb1⟩
        clear cH
        go_wp2_with fail
        refine (impl_rb_is r t _ HT.out).mono ?_
        rintro e w2 ⟨rfl, rfl⟩
        by_cases hz : t = ByteArray.empty
        · subst hz
          have HO : Hid ((ByteArray.empty, 0) = (T, E)) := by show _ = (T, E); rw [← HR.out, HE.out, if_pos HT.out]
          have he := empty_l
          go_wp2_with fail
          go_ret2
          have e0 := HO.out
          injection e0 with e1 e2
          subst e1
          subst e2
          exact ⟨rfl, hb1⟩
        · have he := nonempty_l hz
          have HO : Hid ((t, k + 2 + m) = (T, E)) := by show _ = (T, E); rw [← HR.out, HE.out, if_neg (by rw [HT.out]; exact hz), HT.out, HBY.out, HM.out]
          clear hz
          go_wp2_with fail
          go_ret2
          have e0 := HO.out
          injection e0 with e1 e2
          subst e1
          subst e2
          exact ⟨by first | rfl | simp | (simp; omega), hb1⟩
    · have hq' : (((s[k]'hk).toNat : Int) != 92) = true := by rw [bne_iff_ne]; omega
      have HO : Hid ((ByteArray.empty, 0) = (T, E)) := by
        show _ = (T, E)
        rw [← HR.out]; unfold escAt
        rw [if_pos (.inr (by rw [← bt_get s k hk]; exact hq))]
      clear hq
      go_wp2_with fail
      go_ret2
      have e0 := HO.out
      injection e0 with e1 e2
      subst e1
      subst e2
      exact ⟨rfl, Below.refl _ _⟩
  · have hl1 : (s.size : Int) ≤ (k : Int) + 1 := by omega
    have HO : Hid ((ByteArray.empty, 0) = (T, E)) := by
      show _ = (T, E)
      rw [← HR.out]; unfold escAt
      rw [if_pos (.inl (by omega))]
    clear hlt
    go_wp2_with fail
    go_ret2
    have e0 := HO.out
    injection e0 with e1 e2
    subst e1
    subst e2
    exact ⟨rfl, Below.refl _ _⟩
end Go.Proofs.YtjpcmmfmdoglkalGreatDoor
