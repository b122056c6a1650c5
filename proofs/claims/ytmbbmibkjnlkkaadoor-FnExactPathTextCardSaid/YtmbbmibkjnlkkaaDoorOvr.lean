/- The closures of impl, and what goes over bytes: impl.over, among, EndAt, White; spec's side of EndAt and White. -/
import Derived.Test.YtmbbmibkjnlkkaaDoorLat
import Derived.Shelf.Small.Strs
import Derived.Shelf.Abstract
namespace Go.Proofs
open Go.Shelf
def Tryd.lays137_ren : Go.Shelf.Ren := ⟨fun | 137 => 137 | 217 => 101 | 266 => 109 | n => n, fun | 3 => 3 | 5 => 5 | 9 => 9 | n => n, fun | n => n⟩
theorem Tryd.lays137 : Go.Proofs.Lays.n137 Tryd.prog Tryd.lays137_ren := {
  mixed := by kernel_rfl
  f137 := Tryd.func137.trans (congrArg some (by kernel_rfl))
  f217 := Tryd.func101.trans (congrArg some (by kernel_rfl))
  f266 := Tryd.func109.trans (congrArg some (by kernel_rfl))
  t3 := Tryd.underlying3
  a3 := Tryd.isAgg3
  z3 := Tryd.sizeOf3
  v3 := Tryd.zeroValue3
  t5 := Tryd.underlying5
  a5 := Tryd.isAgg5
  z5 := Tryd.sizeOf5
  v5 := Tryd.zeroValue5
  t9 := Tryd.underlying9
  a9 := Tryd.isAgg9
  z9 := Tryd.sizeOf9
  v9 := Tryd.zeroValue9 }

end Go.Proofs
namespace Go.Proofs.YtmbbmibkjnlkkaaDoor
open Go.ChangeShapes Go.WideShapes Go.ChangeAt Go.RowKit Go.Shelf
/-- What is asked of a function value: at every later world and every byte it answers p, and what lay, lies. -/
def PredB (g : Nat) (lb : Array Value) (p : Nat → Bool) (w : World) : Prop :=
  ∀ (W : World) (x : Nat), x < 256 → Below w.heap.size w W → Calls Tryd.prog g (#[.int .u8 (x : Int)] ++ lb) W fun e w' => e = .returned (.bool (p x)) ∧ Below W.heap.size W w'
theorem PredB.later {g : Nat} {lb : Array Value} {p : Nat → Bool} {w W : World} (h : PredB g lb p w) (hb : Below w.heap.size w W) : PredB g lb p W :=
  fun W' x hx hb' => h W' x hx (hb.trans (hb'.mono hb.size))
theorem indexByte_any (s : ByteArray) (c : Int) (w : World) :
    Calls Tryd.prog 137 #[.string s, .int .u8 c] w fun e w' => e = .returned (.int .i64 (Lib.indexByte s.data.toList c.toNat.toUInt8)) ∧ w' = w :=
  Any.strings_IndexByte Tryd.lays137 s c w
set_option maxHeartbeats 1000000 in
theorem over_any (s : ByteArray) (p : Int) (g : Nat) (lb : Array Value) (P : Nat → Bool) (eg : ∀ args w, (callFunc g args).run Tryd.prog w = .ok (.enter g args) w) (w : World) (hs : s.size ≤ mx) (hp : PredB g lb P w) :
    Calls Tryd.prog 62 #[.string s, .int .i64 p, .func (.func g) #[] lb] w fun e w' => e = .returned (.int .i64 (fwd P s (cl s.size p))) ∧ Below w.heap.size w w' := by
  have hcl := cl_le s.size p
  unfold mx at hs
  go_enter Tryd.func62, Tryd.ntmps62
  go_wp2_with fail
  refine (bring_any _ _ _ hs).mono ?_
  rintro e w1 ⟨rfl, rfl⟩
  generalize hq : cl s.size p = q at *
  have HQ : Hid (cl s.size p = q) := hq
  clear hq
  go_wp2_with fail
  go_loopw [1] (fun t w' => ∃ k : Nat, k ≤ s.size ∧ t = .int .i64 k ∧ Hid (fwd P s k = fwd P s q) ∧ Below w1.heap.size w1 w') (fun t _ => s.size - (intOf t).toNat)
  case atStart => exact ⟨q, hcl, rfl, rfl, Below.refl _ _⟩
  case round =>
    obtain ⟨k, hk, rfl, HL, hbw⟩ := hrel
    by_cases hlt : k < s.size
    · have hb := bt_get s k hlt
      have hx := bt_lt s k
      have cS : Calls Tryd.prog g (#[.int .u8 (bt s k : Int)] ++ lb) wr _ := hp wr _ hx hbw
      rw [← hb] at cS
      cases hP : P (bt s k) with
      | true =>
        have HE : Hid (fwd P s (k + 1) = fwd P s q) := by show fwd P s (k + 1) = fwd P s q; rw [← HL.out, fwd_step hlt hP]
        rw [hb, hP, ← hb] at cS
        clear hb hP hx hp
        go_wp2_with (go_at_fn g; refine cS.mono ?_; rintro e W' ⟨rfl, hbc⟩)
        go_roundw
        case rel => exact ⟨k + 1, by omega, by go_num, HE, hbw.trans (hbc.mono hbw.size)⟩
        case measure => simp [intOf]; omega
      | false =>
        have HE : Hid (fwd P s q = k) := by show fwd P s q = k; rw [← HL.out, fwd_stop hP]
        rw [hb, hP, ← hb] at cS
        clear hb hP hx hp
        go_wp2_with (go_at_fn g; refine cS.mono ?_; rintro e W' ⟨rfl, hbc⟩)
        go_ret
        exact ⟨ret_int (by rw [HQ.out, HE.out]), hbw.trans (hbc.mono hbw.size)⟩
    · have HE : Hid (fwd P s q = k) := by show fwd P s q = k; rw [← HL.out, fwd_end (by omega)]
      clear hp
      go_wp2_with fail
      go_ret
      exact ⟨ret_int (by rw [HQ.out, HE.out]), hbw⟩
/-- among, and its closure. -/
theorem amongC_any (t : ByteArray) (P : Nat → Bool) (B : Nat) (w : World) (hB : w.heap[B]? = some (.cells #[.string t] 9 (0, 0))) (hP : ∀ x, x < 256 → P x = t.data.toList.contains x.toUInt8) : PredB 136 #[.pointer (some ⟨B, 0, none⟩)] P w := by
  intro W x hx hb
  have hlt : B < w.heap.size := (Array.getElem?_eq_some_iff.1 hB).1
  have hBW : W.heap[B]? = some (.cells #[.string t] 9 (0, 0)) := (hb.block _ hlt).trans hB
  have hpos := indexByte_pos t.data.toList x.toUInt8
  rw [← hP x hx] at hpos
  have hcl : W.cell? ⟨B, 0, none⟩ = some (.string t) := by simp [World.cell?, hBW]
  clear hBW hB hb hP
  show Calls Tryd.prog 136 #[.int .u8 (x : Int), .pointer (some ⟨B, 0, none⟩)] W _
  have HC : Hid (decide (0 ≤ Lib.indexByte t.data.toList x.toUInt8) = P x) := hpos
  clear hpos
  go_enter Tryd.func136, Tryd.ntmps136
  go_wp2_with fail
  refine (indexByte_any _ _ _).mono ?_
  rintro e w1 ⟨rfl, rfl⟩
  go_wp2_with fail
  go_ret
  exact ⟨ret_bool HC.out, Below.refl _ _⟩
theorem among_any (t : ByteArray) (w : World) :
    Calls Tryd.prog 135 #[.string t] w fun e w' => ∃ B, e = .returned (.func (.func 136) #[] #[.pointer (some ⟨B, 0, none⟩)]) ∧ w'.heap[B]? = some (.cells #[.string t] 9 (0, 0)) ∧ Below w.heap.size w w' := by
  go_enter Tryd.func135, Tryd.ntmps135
  go_wp2
  go_ret
  exact ⟨_, rfl, by show (w.heap.push _)[w.heap.size]? = _; simp, (Below.refl _ _).alloc (Nat.le_refl _) _⟩
theorem u8_eq {x : Nat} (hx : x < 256) (c : UInt8) : (x.toUInt8 == c) = (x == c.toNat) := by
  rw [Bool.eq_iff_iff, beq_iff_eq, beq_iff_eq, ← UInt8.toNat_inj]
  have : x.toUInt8.toNat = x := by
    show (UInt8.ofNat x).toNat = x
    rw [UInt8.toNat_ofNat']; omega
  rw [this]
theorem pW_signs : ∀ x, x < 256 → pW x = (ByteArray.mk #[32, 9]).data.toList.contains x.toUInt8 := by
  intro x hx
  show pW x = [32, 9].contains x.toUInt8
  rw [List.contains_cons, List.contains_cons, List.contains_nil, u8_eq hx, u8_eq hx, Bool.or_false]
  rfl
theorem pG_signs : ∀ x, x < 256 → pG x = (ByteArray.mk #[32, 9, 10]).data.toList.contains x.toUInt8 := by
  intro x hx
  show pG x = [32, 9, 10].contains x.toUInt8
  rw [List.contains_cons, List.contains_cons, List.contains_cons, List.contains_nil, u8_eq hx, u8_eq hx, u8_eq hx, Bool.or_false]
  show (x == 32 || x == 9 || x == 10) = (x == 32 || (x == 9 || x == 10))
  rw [Bool.or_assoc]
theorem pB_signs : ∀ x, x < 256 → pB x = (ByteArray.mk #[32]).data.toList.contains x.toUInt8 := by
  intro x hx
  show pB x = [32].contains x.toUInt8
  rw [List.contains_cons, List.contains_nil, u8_eq hx, Bool.or_false]
  rfl
theorem among_over (s t : ByteArray) (p : Int) (P : Nat → Bool) (B : Nat) (w : World) (hs : s.size ≤ mx) (hB : w.heap[B]? = some (.cells #[.string t] 9 (0, 0))) (hP : ∀ x, x < 256 → P x = t.data.toList.contains x.toUInt8) :
    Calls Tryd.prog 62 #[.string s, .int .i64 p, .func (.func 136) #[] #[.pointer (some ⟨B, 0, none⟩)]] w fun e w' => e = .returned (.int .i64 (fwd P s (cl s.size p))) ∧ Below w.heap.size w w' :=
  over_any s p 136 _ P (enters_of Tryd.func136 (by kernel_rfl) rfl) w hs (amongC_any t P B w hB hP)
/- spec's side. -/
end Go.Proofs.YtmbbmibkjnlkkaaDoor
