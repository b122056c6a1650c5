/- impl's hexAt, signNumber, digitsBehind. -/
import Derived.Test.YtcajfnhbfciahakDoorHxi
import Derived.Test.YtcajfnhbfciahakDoorSes
namespace Go.Proofs.YtcajfnhbfciahakDoor
open Go.ChangeShapes Go.WideShapes Go.ChangeAt Go.RowKit Go.Shelf
/-- The variable ErrSyntax holds an error. -/
def ErrVar (w : World) : Prop := ∃ te pe, w.cell? ⟨0, 0, none⟩ = some (.iface te pe)
theorem ErrVar.later {w w' : World} (h : ErrVar w) (hb : Below w.heap.size w w') : ErrVar w' := by
  obtain ⟨te, pe, h⟩ := h
  exact ⟨te, pe, (hb.cell (World.block_lt_of_cell? _ _ h)).trans h⟩
theorem toError_syn (fn s : ByteArray) (w : World) (hs : s.size ≤ 1048576) (hv : ErrVar w) :
    Calls Tryd.prog 35 #[.string fn, .string s, .int .i64 16, .int .i64 32, .iface 59 (.int .i64 2)] w fun e w' => (∃ N, e = .returned (.iface 62 (.pointer (some ⟨N, 0, none⟩)))) ∧ Below w.heap.size w w' := by
  obtain ⟨te, pe, hv⟩ := hv
  have heq : ∀ W, (binOp .eql 42 (.iface 59 (.int .i64 2)) (.iface 59 (.int .i64 2))).run Tryd.prog W = .ok (.bool true) W := fun W => Lib.run_eql_iface_int W 2 2 Tryd.underlying42 (by kernel_rfl) Tryd.underlying59
  have cS : Calls Tryd.prog 47 #[.string fn, .string s] w _ := AnyPu.strconv_syntaxError Tryd.laysPu21 fn s (.iface te pe) w (by omega) hv (.inr ⟨te, pe, rfl⟩)
  go_enter Tryd.func35, Tryd.ntmps35
  go_wp2_with fail
  refine cS.mono ?_
  rintro e w2 ⟨N, rfl, _, _, h3⟩
  go_wp2_with fail
  go_ret
  exact ⟨⟨N, rfl⟩, h3⟩
def PuOut (R : Int) (e : Ending) : Prop := if R < 0 then ∃ N, e = .returned (.tuple #[.int .u64 0, .iface 62 (.pointer (some ⟨N, 0, none⟩))]) else e = .returned (.tuple #[.int .u64 R, .nilIface])
theorem pu16 (t : ByteArray) (hne : t.size ≠ 0) (h8 : t.size ≤ 8) (w : World) (R : Int) (hR : hexGo t t.size 0 0 = R) (hv : ErrVar w) :
    Calls Tryd.prog 23 #[.string t, .int .i64 16, .int .i64 32] w fun e w' => PuOut R e ∧ Below w.heap.size w w' := by
  have cI := inner_pu t hne h8 w R hR
  have HV : Hid (ErrVar w) := hv
  clear hR hv
  by_cases hn : R < 0
  · have e : puV R = .tuple #[.int .u64 0, .iface 59 (.int .i64 2)] := by unfold puV; rw [if_pos hn]
    rw [e] at cI
    have HO : Hid (∀ N, PuOut R (.returned (.tuple #[.int .u64 0, .iface 62 (.pointer (some ⟨N, 0, none⟩))]))) := fun N => by unfold PuOut; rw [if_pos hn]; exact ⟨N, rfl⟩
    clear e hn
    go_enter Tryd.func23, Tryd.ntmps23
    go_wp2_with fail
    refine cI.mono ?_
    rintro e w1 ⟨rfl, hw⟩
    have hb1 : Below w.heap.size w w1 := by rw [hw]; exact Lib.bytesWorld_below _ _ _
    have HV1 : Hid (ErrVar w1) := HV.out.later hb1
    have HB1 : Hid (Below w.heap.size w w1) := hb1
    clear hw hb1
    go_wp2_with fail
    refine (toError_syn _ t _ (by omega) HV1.out).mono ?_
    rintro e w2 ⟨⟨N, rfl⟩, h3⟩
    go_wp2_with fail
    go_ret2
    exact ⟨HO.out N, HB1.out.trans (h3.mono HB1.out.size)⟩
  · have e : puV R = .tuple #[.int .u64 R, .nilIface] := by unfold puV; rw [if_neg hn]
    rw [e] at cI
    have HO : Hid (PuOut R (.returned (.tuple #[.int .u64 R, .nilIface]))) := by show PuOut _ _; unfold PuOut; rw [if_neg hn]
    clear e hn
    go_enter Tryd.func23, Tryd.ntmps23
    go_wp2_with fail
    refine cI.mono ?_
    rintro e w1 ⟨rfl, hw⟩
    have hb1 : Below w.heap.size w w1 := by rw [hw]; exact Lib.bytesWorld_below _ _ _
    clear hw
    go_wp2_with fail
    go_ret2
    exact ⟨HO.out, hb1⟩
theorem bt_extract (s : ByteArray) (i j k : Nat) (hj : j ≤ s.size) (hk : i + k < j) : bt (s.extract i j) k = bt s (i + k) := by
  unfold bt
  congr 1
  rw [getElem!_pos (s.extract i j).data k (by show k < (s.extract i j).size; rw [ByteArray.size_extract]; omega), getElem!_pos s.data (i + k) (by show i + k < s.size; omega)]
  simp [ByteArray.data_extract]
theorem hex_extract (s : ByteArray) (i : Nat) : ∀ (c k x : Nat), i + k + c ≤ s.size → hexGo (s.extract i (i + k + c)) c k x = hexGo s c (i + k) x
  | 0, k, x, _ => rfl
  | c + 1, k, x, h => by
    have hz : (s.extract i (i + k + (c + 1))).size = k + (c + 1) := by rw [ByteArray.size_extract]; omega
    rw [hexGo, hexGo, if_neg (by omega), if_neg (by omega), bt_extract s i _ k h (by omega)]
    cases dg (bt s (i + k)) with
    | none => rfl
    | some d =>
      have ih := hex_extract s i c (k + 1) (x * 16 + d) (by omega)
      rw [show i + (k + 1) + c = i + k + (c + 1) by omega, show i + (k + 1) = i + k + 1 by omega] at ih
      exact ih
theorem hex_short (s : ByteArray) : ∀ (c i x : Nat), i ≤ s.size → s.size < i + c → hexGo s c i x = -1
  | 0, i, x, _, h => by omega
  | c + 1, i, x, hi, h => by
    by_cases e : s.size ≤ i
    · exact hex_end e
    · rw [hexGo, if_neg e]
      cases dg (bt s i) with
      | none => rfl
      | some d => exact hex_short s c (i + 1) _ (by omega) (by omega)
theorem hex_up (s : ByteArray) : ∀ (c i x : Nat), c ≤ 8 → x < 16 ^ (8 - c) → hexGo s c i x < 4294967296
  | 0, i, x, _, h => by
    have : (16 : Nat) ^ (8 - 0) = 4294967296 := by decide
    rw [hexGo]
    omega
  | c + 1, i, x, hc, h => by
    rw [hexGo]
    split
    · omega
    · split
      · omega
      · rename_i d hd
        have hd16 : d < 16 := by
          unfold dg at hd
          split at hd
          · injection hd with hd; omega
          · split at hd
            · injection hd with hd; omega
            · split at hd
              · injection hd with hd; omega
              · cases hd
        exact hex_up s c (i + 1) _ (by omega) (pow_step (by omega) (by rw [show 7 - c = 8 - (c + 1) by omega]; exact h) hd16)
theorem hex_low (s : ByteArray) : ∀ (c i x : Nat), -1 ≤ hexGo s c i x
  | 0, i, x => by rw [hexGo]; omega
  | c + 1, i, x => by
    rw [hexGo]
    split
    · omega
    · split
      · omega
      · exact hex_low s c _ _
theorem hexAt_any (s : ByteArray) (p n : Nat) (w : World) (R : Int) (hs : s.size ≤ 1048576) (hp : p ≤ s.size) (hn0 : 0 < n) (hn : n ≤ 8) (hv : ErrVar w) (hR : hexGo s n p 0 = R) :
    Calls Tryd.prog 15 #[.string s, .int .i64 (p : Int), .int .i64 ((p + n : Nat) : Int)] w fun e w' => e = .returned (.int .i64 R) ∧ Below w.heap.size w w' := by
  obtain ⟨q, hq⟩ : ∃ q, p + n = q := ⟨_, rfl⟩
  rw [hq]
  by_cases hl : s.size < q
  · have hl' : (s.size : Int) < (q : Int) := by omega
    have HO : Hid (R = -1) := by show R = -1; rw [← hR]; exact hex_short s n p 0 hp (by omega)
    clear hR hv hq
    go_enter Tryd.func15, Tryd.ntmps15
    go_wp2_with fail
    go_ret
    exact ⟨ret_int HO.out.symm, Below.refl _ _⟩
  · have hl' : ¬ (s.size : Int) < (q : Int) := by omega
    have hz : (s.extract p q).size = n := by rw [ByteArray.size_extract]; omega
    have hx : hexGo (s.extract p q) (s.extract p q).size 0 0 = R := by
      rw [hz, ← hR]
      have := hex_extract s p n 0 0 (by omega)
      rw [Nat.add_zero, hq] at this
      exact this
    have cP := pu16 (s.extract p q) (by omega) (by omega) w R hx hv
    have hup : R < 4294967296 := by rw [← hR]; exact hex_up s n p 0 hn (Nat.pow_pos (by decide))
    have hlow : -1 ≤ R := by rw [← hR]; exact hex_low s n p 0
    have hpq : (p : Int) ≤ (q : Int) := by omega
    clear hx hz hR hv hq
    by_cases hneg : R < 0
    · have HO : Hid (R = -1) := by show R = -1; omega
      have HN : Hid (R < 0) := hneg
      clear hneg hup hlow
      go_enter Tryd.func15, Tryd.ntmps15
      go_wp2_with fail
      refine cP.mono ?_
      rintro e w1 ⟨h1, hb1⟩
      unfold PuOut at h1
      rw [if_pos HN.out] at h1
      obtain ⟨N, rfl⟩ := h1
      clear cP
      go_wp2_with fail
      go_ret
      exact ⟨ret_int HO.out.symm, hb1⟩
    · have HN : Hid (¬ R < 0) := hneg
      have h0 : 0 ≤ R := by omega
      clear hlow hneg
      go_enter Tryd.func15, Tryd.ntmps15
      go_wp2_with fail
      refine cP.mono ?_
      rintro e w1 ⟨h1, hb1⟩
      unfold PuOut at h1
      rw [if_neg (by have := HN.out; omega)] at h1
      subst h1
      clear cP
      go_wp2_with fail
      go_ret
      exact ⟨by first | rfl | exact ret_int (by omega), hb1⟩
/-- What a byte behind a backslash stands for by itself. -/
def snN (x : Nat) : Int := match escT x with
  | some r => (r : Int)
  | none => -1
end Go.Proofs.YtcajfnhbfciahakDoor
