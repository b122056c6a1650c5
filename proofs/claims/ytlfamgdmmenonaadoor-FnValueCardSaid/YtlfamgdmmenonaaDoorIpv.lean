/- strconv.ParseUint at the bases eight, ten and sixteen and 64 bits; strings.HasPrefix and TrimPrefix; impl's cutNumber and IntOf. -/
import Derived.Test.YtlfamgdmmenonaaDoorIpu
import Derived.Test.YtlfamgdmmenonaaDoorSio
import Derived.Shelf.Pu.SyntaxError
import Derived.Shelf.Pu.RangeError
namespace Go.Proofs
open Go.Shelf
def Tryd.laysPu21_ren : Go.Shelf.Ren := ⟨fun | 21 => 52 | 25 => 67 | n => n, fun | 22 => 45 | 23 => 46 | 24 => 47 | 25 => 48 | 26 => 49 | 33 => 66 | 34 => 82 | 35 => 83 | 36 => 80 | 37 => 22 | 38 => 34 | 39 => 84 | 40 => 85 | 41 => 86 | 42 => 96 | 43 => 97 | 44 => 98 | 45 => 99 | 46 => 24 | 47 => 108 | 48 => 109 | 49 => 110 | 50 => 111 | 51 => 81 | 52 => 91 | 53 => 92 | 54 => 93 | 55 => 94 | 56 => 95 | 57 => 101 | 58 => 102 | 59 => 103 | 60 => 104 | 61 => 105 | 62 => 106 | 63 => 107 | 64 => 114 | 65 => 116 | 66 => 117 | 67 => 118 | 68 => 119 | 69 => 120 | 70 => 121 | 71 => 122 | 72 => 123 | 73 => 69 | 74 => 124 | 75 => 125 | 76 => 126 | 77 => 127 | 78 => 128 | 79 => 129 | 80 => 130 | 81 => 131 | n => n, fun | n => n⟩
theorem Tryd.laysPu21 : Go.Proofs.LaysPu.n21 Tryd.prog Tryd.laysPu21_ren := {
  mixed := by kernel_rfl
  f21 := Tryd.func52.trans (congrArg some (by kernel_rfl))
  f25 := Tryd.func67.trans (congrArg some (by kernel_rfl))
  t0 := Tryd.underlying0
  a0 := Tryd.isAgg0
  z0 := Tryd.sizeOf0
  v0 := Tryd.zeroValue0
  i0 := by kernel_rfl
  t3 := Tryd.underlying3
  a3 := Tryd.isAgg3
  z3 := Tryd.sizeOf3
  v3 := Tryd.zeroValue3
  i3 := by kernel_rfl
  t4 := Tryd.underlying4
  a4 := Tryd.isAgg4
  z4 := Tryd.sizeOf4
  v4 := Tryd.zeroValue4
  i4 := by kernel_rfl
  t5 := Tryd.underlying5
  a5 := Tryd.isAgg5
  z5 := Tryd.sizeOf5
  v5 := Tryd.zeroValue5
  i5 := by kernel_rfl
  t9 := Tryd.underlying9
  a9 := Tryd.isAgg9
  z9 := Tryd.sizeOf9
  v9 := Tryd.zeroValue9
  i9 := by kernel_rfl
  t24 := Tryd.underlying47
  a24 := Tryd.isAgg47
  z24 := Tryd.sizeOf47
  v24 := Tryd.zeroValue47
  i24 := by kernel_rfl
  t37 := Tryd.underlying22
  a37 := Tryd.isAgg22
  z37 := Tryd.sizeOf22
  v37 := Tryd.zeroValue22
  i37 := by kernel_rfl
  t39 := Tryd.underlying84
  a39 := Tryd.isAgg84
  z39 := Tryd.sizeOf84
  v39 := Tryd.zeroValue84
  i39 := by kernel_rfl
  t44 := Tryd.underlying98
  a44 := Tryd.isAgg98
  z44 := Tryd.sizeOf98
  v44 := Tryd.zeroValue98
  i44 := by kernel_rfl
  t47 := Tryd.underlying108
  a47 := Tryd.isAgg108
  z47 := Tryd.sizeOf108
  v47 := Tryd.zeroValue108
  i47 := by kernel_rfl
  t67 := Tryd.underlying118
  a67 := Tryd.isAgg118
  z67 := Tryd.sizeOf118
  v67 := Tryd.zeroValue118
  i67 := by kernel_rfl
  g0 := by kernel_rfl
  m0 := by kernel_rfl }

def Tryd.laysPu22_ren : Go.Shelf.Ren := ⟨fun | 22 => 53 | 25 => 67 | n => n, fun | 22 => 45 | 23 => 46 | 24 => 47 | 25 => 48 | 26 => 49 | 33 => 66 | 34 => 82 | 35 => 83 | 36 => 80 | 37 => 22 | 38 => 34 | 39 => 84 | 40 => 85 | 41 => 86 | 42 => 96 | 43 => 97 | 44 => 98 | 45 => 99 | 46 => 24 | 47 => 108 | 48 => 109 | 49 => 110 | 50 => 111 | 51 => 81 | 52 => 91 | 53 => 92 | 54 => 93 | 55 => 94 | 56 => 95 | 57 => 101 | 58 => 102 | 59 => 103 | 60 => 104 | 61 => 105 | 62 => 106 | 63 => 107 | 64 => 114 | 65 => 116 | 66 => 117 | 67 => 118 | 68 => 119 | 69 => 120 | 70 => 121 | 71 => 122 | 72 => 123 | 73 => 69 | 74 => 124 | 75 => 125 | 76 => 126 | 77 => 127 | 78 => 128 | 79 => 129 | 80 => 130 | 81 => 131 | n => n, fun | n => n⟩
theorem Tryd.laysPu22 : Go.Proofs.LaysPu.n22 Tryd.prog Tryd.laysPu22_ren := {
  mixed := by kernel_rfl
  f22 := Tryd.func53.trans (congrArg some (by kernel_rfl))
  f25 := Tryd.func67.trans (congrArg some (by kernel_rfl))
  t0 := Tryd.underlying0
  a0 := Tryd.isAgg0
  z0 := Tryd.sizeOf0
  v0 := Tryd.zeroValue0
  i0 := by kernel_rfl
  t3 := Tryd.underlying3
  a3 := Tryd.isAgg3
  z3 := Tryd.sizeOf3
  v3 := Tryd.zeroValue3
  i3 := by kernel_rfl
  t4 := Tryd.underlying4
  a4 := Tryd.isAgg4
  z4 := Tryd.sizeOf4
  v4 := Tryd.zeroValue4
  i4 := by kernel_rfl
  t5 := Tryd.underlying5
  a5 := Tryd.isAgg5
  z5 := Tryd.sizeOf5
  v5 := Tryd.zeroValue5
  i5 := by kernel_rfl
  t9 := Tryd.underlying9
  a9 := Tryd.isAgg9
  z9 := Tryd.sizeOf9
  v9 := Tryd.zeroValue9
  i9 := by kernel_rfl
  t24 := Tryd.underlying47
  a24 := Tryd.isAgg47
  z24 := Tryd.sizeOf47
  v24 := Tryd.zeroValue47
  i24 := by kernel_rfl
  t37 := Tryd.underlying22
  a37 := Tryd.isAgg22
  z37 := Tryd.sizeOf22
  v37 := Tryd.zeroValue22
  i37 := by kernel_rfl
  t39 := Tryd.underlying84
  a39 := Tryd.isAgg84
  z39 := Tryd.sizeOf84
  v39 := Tryd.zeroValue84
  i39 := by kernel_rfl
  t44 := Tryd.underlying98
  a44 := Tryd.isAgg98
  z44 := Tryd.sizeOf98
  v44 := Tryd.zeroValue98
  i44 := by kernel_rfl
  t47 := Tryd.underlying108
  a47 := Tryd.isAgg108
  z47 := Tryd.sizeOf108
  v47 := Tryd.zeroValue108
  i47 := by kernel_rfl
  t67 := Tryd.underlying118
  a67 := Tryd.isAgg118
  z67 := Tryd.sizeOf118
  v67 := Tryd.zeroValue118
  i67 := by kernel_rfl
  g1 := by kernel_rfl
  m1 := by kernel_rfl }

end Go.Proofs
namespace Go.Proofs.YtlfamgdmmenonaaDoor
open Go.ChangeShapes Go.WideShapes Go.ChangeAt Go.RowKit Go.Shelf
/-- The variables ErrSyntax and ErrRange hold errors. -/
def SynV (w : World) : Prop := ∃ te pe, w.cell? ⟨0, 0, none⟩ = some (.iface te pe)
def RngV (w : World) : Prop := ∃ te pe, w.cell? ⟨1, 0, none⟩ = some (.iface te pe)
def NumV (w : World) : Prop := SynV w ∧ RngV w
theorem NumV.later {w w' : World} (h : NumV w) (hb : Below w.heap.size w w') : NumV w' := by
  obtain ⟨⟨te, pe, h⟩, ⟨te2, pe2, h2⟩⟩ := h
  exact ⟨⟨te, pe, (hb.cell (World.block_lt_of_cell? _ _ h)).trans h⟩, ⟨te2, pe2, (hb.cell (World.block_lt_of_cell? _ _ h2)).trans h2⟩⟩
/-- What ParseUint comes to. -/
def PuQ (R : Int) (e : Ending) : Prop := (0 ≤ R ∧ e = .returned (.tuple #[.int .u64 R, .nilIface])) ∨ (R < 0 ∧ ((∃ x : Int, 9007199254740991 < x ∧ x < 18446744073709551616 ∧ e = .returned (.tuple #[.int .u64 x, .nilIface])) ∨ ∃ (x : Int) (N : Nat), e = .returned (.tuple #[.int .u64 x, .iface 84 (.pointer (some ⟨N, 0, none⟩))])))
theorem PuQ.err {R : Int} (h : R < 0) (x : Int) (N : Nat) : PuQ R (.returned (.tuple #[.int .u64 x, .iface 84 (.pointer (some ⟨N, 0, none⟩))])) := .inr ⟨h, .inr ⟨x, N, rfl⟩⟩
theorem digV_nil {t : ByteArray} {b : Nat} (h : t.size = 0) : digV t b = -1 := by
  unfold digV
  rw [h, digG, if_pos h]
set_option maxRecDepth 100000 in
theorem innerE_8 (t : ByteArray) (ht : t.size = 0) (w : World) :
    Calls Tryd.prog 34 #[.string t, .int .i64 8, .int .i64 64] w fun e w' => e = .returned (.tuple #[.int .u64 0, .iface 82 (.int .i64 2)]) ∧ w' = w := by
  have hemp : t.toList.isEmpty = true := by
    rw [← decide_eq_emptyBytes]
    exact decide_eq_true (by apply ByteArray.ext; exact Array.eq_empty_of_size_eq_zero ht)
  clear ht
  go_enter Tryd.func34, Tryd.ntmps34
  go_wp2
  go_ret2
  exact ⟨rfl, rfl⟩
theorem toErr2_8 (fn s : ByteArray) (w : World) (hs : s.size ≤ 1048576) (hv : SynV w) :
    Calls Tryd.prog 35 #[.string fn, .string s, .int .i64 8, .int .i64 64, .iface 82 (.int .i64 2)] w fun e w' => (∃ N, e = .returned (.iface 84 (.pointer (some ⟨N, 0, none⟩)))) ∧ Below w.heap.size w w' := by
  obtain ⟨te, pe, hv⟩ := hv
  have heq : ∀ W, (binOp .eql 47 (.iface 82 (.int .i64 2)) (.iface 82 (.int .i64 2))).run Tryd.prog W = .ok (.bool true) W := fun W => Lib.run_eql_iface_int W 2 2 Tryd.underlying47 (by kernel_rfl) Tryd.underlying82
  have cS : Calls Tryd.prog 52 #[.string fn, .string s] w _ := AnyPu.strconv_syntaxError Tryd.laysPu21 fn s (.iface te pe) w (by omega) hv (.inr ⟨te, pe, rfl⟩)
  go_enter Tryd.func35, Tryd.ntmps35
  go_wp2_with fail
  refine cS.mono ?_
  rintro e w2 ⟨N, rfl, _, _, h3⟩
  go_wp2_with fail
  go_ret
  exact ⟨⟨N, rfl⟩, h3⟩
theorem toErr1_8 (fn s : ByteArray) (w : World) (hs : s.size ≤ 1048576) (hv : RngV w) :
    Calls Tryd.prog 35 #[.string fn, .string s, .int .i64 8, .int .i64 64, .iface 82 (.int .i64 1)] w fun e w' => (∃ N, e = .returned (.iface 84 (.pointer (some ⟨N, 0, none⟩)))) ∧ Below w.heap.size w w' := by
  obtain ⟨te, pe, hv⟩ := hv
  have heq : ∀ W, (binOp .eql 47 (.iface 82 (.int .i64 1)) (.iface 82 (.int .i64 2))).run Tryd.prog W = .ok (.bool false) W := fun W => Lib.run_eql_iface_int W 1 2 Tryd.underlying47 (by kernel_rfl) Tryd.underlying82
  have heq1 : ∀ W, (binOp .eql 47 (.iface 82 (.int .i64 1)) (.iface 82 (.int .i64 1))).run Tryd.prog W = .ok (.bool true) W := fun W => Lib.run_eql_iface_int W 1 1 Tryd.underlying47 (by kernel_rfl) Tryd.underlying82
  have cS : Calls Tryd.prog 53 #[.string fn, .string s] w _ := AnyPu.strconv_rangeError Tryd.laysPu22 fn s (.iface te pe) w (by omega) hv (.inr ⟨te, pe, rfl⟩)
  go_enter Tryd.func35, Tryd.ntmps35
  go_wp2_with fail
  refine cS.mono ?_
  rintro e w2 ⟨N, rfl, _, _, h3⟩
  go_wp2_with fail
  go_ret
  exact ⟨⟨N, rfl⟩, h3⟩
theorem innerA_8 (t : ByteArray) (ht : t.size ≤ 1048576) (w : World) (R : Int) (hR : digV t 8 = R) :
    Calls Tryd.prog 34 #[.string t, .int .i64 8, .int .i64 64] w fun e w' => InP R e ∧ Below w.heap.size w w' := by
  by_cases h0 : t.size = 0
  · refine (innerE_8 t h0 w).mono ?_
    rintro e w' ⟨rfl, rfl⟩
    exact ⟨InP.syn (by rw [← hR, digV_nil h0]) 0, Below.refl _ _⟩
  · refine (innerB_8 t h0 ht w R hR).mono ?_
    rintro e w' ⟨h, rfl⟩
    exact ⟨h, Lib.bytesWorld_below _ _ _⟩
set_option maxHeartbeats 1000000 in
theorem puB_8 (t : ByteArray) (ht : t.size ≤ 1048576) (w : World) (R : Int) (hR : digV t 8 = R) (hv : NumV w) :
    Calls Tryd.prog 20 #[.string t, .int .i64 8, .int .i64 64] w fun e w' => PuQ R e ∧ Below w.heap.size w w' := by
  have cI := innerA_8 t ht w R hR
  have HV : Hid (NumV w) := hv
  have HT : Hid (t.size ≤ 1048576) := ht
  clear hR hv
  go_enter Tryd.func20, Tryd.ntmps20
  go_wp2_with fail
  refine cI.mono ?_
  rintro e w1 ⟨h1, hb1⟩
  have HV1 : Hid (NumV w1) := HV.out.later hb1
  have HB1 : Hid (Below w.heap.size w w1) := hb1
  clear hb1 HV
  rcases h1 with ⟨h, rfl⟩ | ⟨h, ⟨x, hx, hx2, rfl⟩ | ⟨x, rfl⟩ | ⟨x, rfl⟩⟩
  · have HO : Hid (PuQ R (.returned (.tuple #[.int .u64 R, .nilIface]))) := .inl ⟨h, rfl⟩
    clear h
    go_wp2_with fail
    go_ret2
    exact ⟨HO.out, HB1.out⟩
  · have HO : Hid (PuQ R (.returned (.tuple #[.int .u64 x, .nilIface]))) := .inr ⟨h, .inl ⟨x, hx, hx2, rfl⟩⟩
    clear h hx hx2
    go_wp2_with fail
    go_ret2
    exact ⟨HO.out, HB1.out⟩
  · have HN : Hid (R < 0) := h
    clear h
    go_wp2_with fail
    refine (toErr2_8 _ t _ HT.out HV1.out.1).mono ?_
    rintro e w2 ⟨⟨N, rfl⟩, h3⟩
    go_wp2_with fail
    go_ret2
    exact ⟨PuQ.err HN.out _ _, HB1.out.trans (h3.mono HB1.out.size)⟩
  · have HN : Hid (R < 0) := h
    clear h
    go_wp2_with fail
    refine (toErr1_8 _ t _ HT.out HV1.out.2).mono ?_
    rintro e w2 ⟨⟨N, rfl⟩, h3⟩
    go_wp2_with fail
    go_ret2
    exact ⟨PuQ.err HN.out _ _, HB1.out.trans (h3.mono HB1.out.size)⟩
set_option maxRecDepth 100000 in
theorem innerE_10 (t : ByteArray) (ht : t.size = 0) (w : World) :
    Calls Tryd.prog 34 #[.string t, .int .i64 10, .int .i64 64] w fun e w' => e = .returned (.tuple #[.int .u64 0, .iface 82 (.int .i64 2)]) ∧ w' = w := by
  have hemp : t.toList.isEmpty = true := by
    rw [← decide_eq_emptyBytes]
    exact decide_eq_true (by apply ByteArray.ext; exact Array.eq_empty_of_size_eq_zero ht)
  clear ht
  go_enter Tryd.func34, Tryd.ntmps34
  go_wp2
  go_ret2
  exact ⟨rfl, rfl⟩
theorem toErr2_10 (fn s : ByteArray) (w : World) (hs : s.size ≤ 1048576) (hv : SynV w) :
    Calls Tryd.prog 35 #[.string fn, .string s, .int .i64 10, .int .i64 64, .iface 82 (.int .i64 2)] w fun e w' => (∃ N, e = .returned (.iface 84 (.pointer (some ⟨N, 0, none⟩)))) ∧ Below w.heap.size w w' := by
  obtain ⟨te, pe, hv⟩ := hv
  have heq : ∀ W, (binOp .eql 47 (.iface 82 (.int .i64 2)) (.iface 82 (.int .i64 2))).run Tryd.prog W = .ok (.bool true) W := fun W => Lib.run_eql_iface_int W 2 2 Tryd.underlying47 (by kernel_rfl) Tryd.underlying82
  have cS : Calls Tryd.prog 52 #[.string fn, .string s] w _ := AnyPu.strconv_syntaxError Tryd.laysPu21 fn s (.iface te pe) w (by omega) hv (.inr ⟨te, pe, rfl⟩)
  go_enter Tryd.func35, Tryd.ntmps35
  go_wp2_with fail
  refine cS.mono ?_
  rintro e w2 ⟨N, rfl, _, _, h3⟩
  go_wp2_with fail
  go_ret
  exact ⟨⟨N, rfl⟩, h3⟩
theorem toErr1_10 (fn s : ByteArray) (w : World) (hs : s.size ≤ 1048576) (hv : RngV w) :
    Calls Tryd.prog 35 #[.string fn, .string s, .int .i64 10, .int .i64 64, .iface 82 (.int .i64 1)] w fun e w' => (∃ N, e = .returned (.iface 84 (.pointer (some ⟨N, 0, none⟩)))) ∧ Below w.heap.size w w' := by
  obtain ⟨te, pe, hv⟩ := hv
  have heq : ∀ W, (binOp .eql 47 (.iface 82 (.int .i64 1)) (.iface 82 (.int .i64 2))).run Tryd.prog W = .ok (.bool false) W := fun W => Lib.run_eql_iface_int W 1 2 Tryd.underlying47 (by kernel_rfl) Tryd.underlying82
  have heq1 : ∀ W, (binOp .eql 47 (.iface 82 (.int .i64 1)) (.iface 82 (.int .i64 1))).run Tryd.prog W = .ok (.bool true) W := fun W => Lib.run_eql_iface_int W 1 1 Tryd.underlying47 (by kernel_rfl) Tryd.underlying82
  have cS : Calls Tryd.prog 53 #[.string fn, .string s] w _ := AnyPu.strconv_rangeError Tryd.laysPu22 fn s (.iface te pe) w (by omega) hv (.inr ⟨te, pe, rfl⟩)
  go_enter Tryd.func35, Tryd.ntmps35
  go_wp2_with fail
  refine cS.mono ?_
  rintro e w2 ⟨N, rfl, _, _, h3⟩
  go_wp2_with fail
  go_ret
  exact ⟨⟨N, rfl⟩, h3⟩
theorem innerA_10 (t : ByteArray) (ht : t.size ≤ 1048576) (w : World) (R : Int) (hR : digV t 10 = R) :
    Calls Tryd.prog 34 #[.string t, .int .i64 10, .int .i64 64] w fun e w' => InP R e ∧ Below w.heap.size w w' := by
  by_cases h0 : t.size = 0
  · refine (innerE_10 t h0 w).mono ?_
    rintro e w' ⟨rfl, rfl⟩
    exact ⟨InP.syn (by rw [← hR, digV_nil h0]) 0, Below.refl _ _⟩
  · refine (innerB_10 t h0 ht w R hR).mono ?_
    rintro e w' ⟨h, rfl⟩
    exact ⟨h, Lib.bytesWorld_below _ _ _⟩
set_option maxHeartbeats 1000000 in
theorem puB_10 (t : ByteArray) (ht : t.size ≤ 1048576) (w : World) (R : Int) (hR : digV t 10 = R) (hv : NumV w) :
    Calls Tryd.prog 20 #[.string t, .int .i64 10, .int .i64 64] w fun e w' => PuQ R e ∧ Below w.heap.size w w' := by
  have cI := innerA_10 t ht w R hR
  have HV : Hid (NumV w) := hv
  have HT : Hid (t.size ≤ 1048576) := ht
  clear hR hv
  go_enter Tryd.func20, Tryd.ntmps20
  go_wp2_with fail
  refine cI.mono ?_
  rintro e w1 ⟨h1, hb1⟩
  have HV1 : Hid (NumV w1) := HV.out.later hb1
  have HB1 : Hid (Below w.heap.size w w1) := hb1
  clear hb1 HV
  rcases h1 with ⟨h, rfl⟩ | ⟨h, ⟨x, hx, hx2, rfl⟩ | ⟨x, rfl⟩ | ⟨x, rfl⟩⟩
  · have HO : Hid (PuQ R (.returned (.tuple #[.int .u64 R, .nilIface]))) := .inl ⟨h, rfl⟩
    clear h
    go_wp2_with fail
    go_ret2
    exact ⟨HO.out, HB1.out⟩
  · have HO : Hid (PuQ R (.returned (.tuple #[.int .u64 x, .nilIface]))) := .inr ⟨h, .inl ⟨x, hx, hx2, rfl⟩⟩
    clear h hx hx2
    go_wp2_with fail
    go_ret2
    exact ⟨HO.out, HB1.out⟩
  · have HN : Hid (R < 0) := h
    clear h
    go_wp2_with fail
    refine (toErr2_10 _ t _ HT.out HV1.out.1).mono ?_
    rintro e w2 ⟨⟨N, rfl⟩, h3⟩
    go_wp2_with fail
    go_ret2
    exact ⟨PuQ.err HN.out _ _, HB1.out.trans (h3.mono HB1.out.size)⟩
  · have HN : Hid (R < 0) := h
    clear h
    go_wp2_with fail
    refine (toErr1_10 _ t _ HT.out HV1.out.2).mono ?_
    rintro e w2 ⟨⟨N, rfl⟩, h3⟩
    go_wp2_with fail
    go_ret2
    exact ⟨PuQ.err HN.out _ _, HB1.out.trans (h3.mono HB1.out.size)⟩
set_option maxRecDepth 100000 in
theorem innerE_16 (t : ByteArray) (ht : t.size = 0) (w : World) :
    Calls Tryd.prog 34 #[.string t, .int .i64 16, .int .i64 64] w fun e w' => e = .returned (.tuple #[.int .u64 0, .iface 82 (.int .i64 2)]) ∧ w' = w := by
  have hemp : t.toList.isEmpty = true := by
    rw [← decide_eq_emptyBytes]
    exact decide_eq_true (by apply ByteArray.ext; exact Array.eq_empty_of_size_eq_zero ht)
  clear ht
  go_enter Tryd.func34, Tryd.ntmps34
  go_wp2
  go_ret2
  exact ⟨rfl, rfl⟩
theorem toErr2_16 (fn s : ByteArray) (w : World) (hs : s.size ≤ 1048576) (hv : SynV w) :
    Calls Tryd.prog 35 #[.string fn, .string s, .int .i64 16, .int .i64 64, .iface 82 (.int .i64 2)] w fun e w' => (∃ N, e = .returned (.iface 84 (.pointer (some ⟨N, 0, none⟩)))) ∧ Below w.heap.size w w' := by
  obtain ⟨te, pe, hv⟩ := hv
  have heq : ∀ W, (binOp .eql 47 (.iface 82 (.int .i64 2)) (.iface 82 (.int .i64 2))).run Tryd.prog W = .ok (.bool true) W := fun W => Lib.run_eql_iface_int W 2 2 Tryd.underlying47 (by kernel_rfl) Tryd.underlying82
  have cS : Calls Tryd.prog 52 #[.string fn, .string s] w _ := AnyPu.strconv_syntaxError Tryd.laysPu21 fn s (.iface te pe) w (by omega) hv (.inr ⟨te, pe, rfl⟩)
  go_enter Tryd.func35, Tryd.ntmps35
  go_wp2_with fail
  refine cS.mono ?_
  rintro e w2 ⟨N, rfl, _, _, h3⟩
  go_wp2_with fail
  go_ret
  exact ⟨⟨N, rfl⟩, h3⟩
theorem toErr1_16 (fn s : ByteArray) (w : World) (hs : s.size ≤ 1048576) (hv : RngV w) :
    Calls Tryd.prog 35 #[.string fn, .string s, .int .i64 16, .int .i64 64, .iface 82 (.int .i64 1)] w fun e w' => (∃ N, e = .returned (.iface 84 (.pointer (some ⟨N, 0, none⟩)))) ∧ Below w.heap.size w w' := by
  obtain ⟨te, pe, hv⟩ := hv
  have heq : ∀ W, (binOp .eql 47 (.iface 82 (.int .i64 1)) (.iface 82 (.int .i64 2))).run Tryd.prog W = .ok (.bool false) W := fun W => Lib.run_eql_iface_int W 1 2 Tryd.underlying47 (by kernel_rfl) Tryd.underlying82
  have heq1 : ∀ W, (binOp .eql 47 (.iface 82 (.int .i64 1)) (.iface 82 (.int .i64 1))).run Tryd.prog W = .ok (.bool true) W := fun W => Lib.run_eql_iface_int W 1 1 Tryd.underlying47 (by kernel_rfl) Tryd.underlying82
  have cS : Calls Tryd.prog 53 #[.string fn, .string s] w _ := AnyPu.strconv_rangeError Tryd.laysPu22 fn s (.iface te pe) w (by omega) hv (.inr ⟨te, pe, rfl⟩)
  go_enter Tryd.func35, Tryd.ntmps35
  go_wp2_with fail
  refine cS.mono ?_
  rintro e w2 ⟨N, rfl, _, _, h3⟩
  go_wp2_with fail
  go_ret
  exact ⟨⟨N, rfl⟩, h3⟩
theorem innerA_16 (t : ByteArray) (ht : t.size ≤ 1048576) (w : World) (R : Int) (hR : digV t 16 = R) :
    Calls Tryd.prog 34 #[.string t, .int .i64 16, .int .i64 64] w fun e w' => InP R e ∧ Below w.heap.size w w' := by
  by_cases h0 : t.size = 0
  · refine (innerE_16 t h0 w).mono ?_
    rintro e w' ⟨rfl, rfl⟩
    exact ⟨InP.syn (by rw [← hR, digV_nil h0]) 0, Below.refl _ _⟩
  · refine (innerB_16 t h0 ht w R hR).mono ?_
    rintro e w' ⟨h, rfl⟩
    exact ⟨h, Lib.bytesWorld_below _ _ _⟩
set_option maxHeartbeats 1000000 in
theorem puB_16 (t : ByteArray) (ht : t.size ≤ 1048576) (w : World) (R : Int) (hR : digV t 16 = R) (hv : NumV w) :
    Calls Tryd.prog 20 #[.string t, .int .i64 16, .int .i64 64] w fun e w' => PuQ R e ∧ Below w.heap.size w w' := by
  have cI := innerA_16 t ht w R hR
  have HV : Hid (NumV w) := hv
  have HT : Hid (t.size ≤ 1048576) := ht
  clear hR hv
  go_enter Tryd.func20, Tryd.ntmps20
  go_wp2_with fail
  refine cI.mono ?_
  rintro e w1 ⟨h1, hb1⟩
  have HV1 : Hid (NumV w1) := HV.out.later hb1
  have HB1 : Hid (Below w.heap.size w w1) := hb1
  clear hb1 HV
  rcases h1 with ⟨h, rfl⟩ | ⟨h, ⟨x, hx, hx2, rfl⟩ | ⟨x, rfl⟩ | ⟨x, rfl⟩⟩
  · have HO : Hid (PuQ R (.returned (.tuple #[.int .u64 R, .nilIface]))) := .inl ⟨h, rfl⟩
    clear h
    go_wp2_with fail
    go_ret2
    exact ⟨HO.out, HB1.out⟩
  · have HO : Hid (PuQ R (.returned (.tuple #[.int .u64 x, .nilIface]))) := .inr ⟨h, .inl ⟨x, hx, hx2, rfl⟩⟩
    clear h hx hx2
    go_wp2_with fail
    go_ret2
    exact ⟨HO.out, HB1.out⟩
  · have HN : Hid (R < 0) := h
    clear h
    go_wp2_with fail
    refine (toErr2_16 _ t _ HT.out HV1.out.1).mono ?_
    rintro e w2 ⟨⟨N, rfl⟩, h3⟩
    go_wp2_with fail
    go_ret2
    exact ⟨PuQ.err HN.out _ _, HB1.out.trans (h3.mono HB1.out.size)⟩
  · have HN : Hid (R < 0) := h
    clear h
    go_wp2_with fail
    refine (toErr1_16 _ t _ HT.out HV1.out.2).mono ?_
    rintro e w2 ⟨⟨N, rfl⟩, h3⟩
    go_wp2_with fail
    go_ret2
    exact ⟨PuQ.err HN.out _ _, HB1.out.trans (h3.mono HB1.out.size)⟩
theorem toList_beqI (a b : ByteArray) : (a.toList == b.toList) = decide (a = b) := by
  rw [Bool.eq_iff_iff]; simp only [beq_iff_eq, decide_eq_true_eq]
  constructor
  · intro h
    apply ba_ext
    rw [← ByteArray.toList_eq, ← ByteArray.toList_eq, h]
  · intro h; rw [h]
def preI (s t : ByteArray) : Bool := decide (t.size ≤ s.size ∧ s.extract 0 t.size = t)
theorem hpS_I (s t : ByteArray) (w : World) (b : Bool) (hb : b = preI s t) :
    Calls Tryd.prog 48 #[.string s, .string t] w fun e w' => e = .returned (.bool b) ∧ w' = w := by
  subst hb
  by_cases h : t.size ≤ s.size
  · go_enter Tryd.func48, Tryd.ntmps48
    go_wp2
    go_ret
    exact ⟨ret_bool (by rw [toList_beqI]; simp [preI, h]), rfl⟩
  · go_enter Tryd.func48, Tryd.ntmps48
    go_wp2
    go_ret
    exact ⟨ret_bool (by simp [preI, h]), rfl⟩
theorem hp_I (s t : ByteArray) (w : World) (b : Bool) (hb : b = preI s t) :
    Calls Tryd.prog 32 #[.string s, .string t] w fun e w' => e = .returned (.bool b) ∧ w' = w := by
  have HB : Hid (b = preI s t) := hb
  clear hb
  go_enter Tryd.func32, Tryd.ntmps32
  go_wp2_with fail
  refine (hpS_I s t _ b HB.out).mono ?_
  rintro e w1 ⟨rfl, rfl⟩
  go_wp2_with fail
  go_ret
  exact ⟨rfl, rfl⟩
def trimI (s t : ByteArray) : ByteArray := if preI s t = true then s.extract t.size s.size else s
theorem tpS_I (s t : ByteArray) (w : World) (r : ByteArray) (hr : trimI s t = r) :
    Calls Tryd.prog 49 #[.string s, .string t] w fun e w' => e = .returned (.string r) ∧ w' = w := by
  cases hp : preI s t with
  | true =>
    have HB : Hid (true = preI s t) := hp.symm
    have hle : t.size ≤ s.size := by
      unfold preI at hp
      exact (of_decide_eq_true hp).1
    have HR : Hid (s.extract t.size s.size = r) := by show _ = _; rw [← hr]; unfold trimI; rw [if_pos hp]
    clear hp hr
    go_enter Tryd.func49, Tryd.ntmps49
    go_wp2_with fail
    refine (hpS_I s t _ true HB.out).mono ?_
    rintro e w1 ⟨rfl, rfl⟩
    go_wp2_with fail
    go_ret
    exact ⟨congrArg (fun x => Ending.returned (.string x)) HR.out, rfl⟩
  | false =>
    have HB : Hid (false = preI s t) := hp.symm
    have HR : Hid (s = r) := by show _ = _; rw [← hr]; unfold trimI; rw [if_neg (by rw [hp]; exact Bool.false_ne_true)]
    clear hp hr
    go_enter Tryd.func49, Tryd.ntmps49
    go_wp2_with fail
    refine (hpS_I s t _ false HB.out).mono ?_
    rintro e w1 ⟨rfl, rfl⟩
    go_wp2_with fail
    go_ret
    exact ⟨congrArg (fun x => Ending.returned (.string x)) HR.out, rfl⟩
theorem tp_I (s t : ByteArray) (w : World) (r : ByteArray) (hr : trimI s t = r) :
    Calls Tryd.prog 33 #[.string s, .string t] w fun e w' => e = .returned (.string r) ∧ w' = w := by
  have HR : Hid (trimI s t = r) := hr
  clear hr
  go_enter Tryd.func33, Tryd.ntmps33
  go_wp2_with fail
  refine (tpS_I s t _ r HR.out).mono ?_
  rintro e w1 ⟨rfl, rfl⟩
  go_wp2_with fail
  go_ret
  exact ⟨rfl, rfl⟩
theorem below_drewI (w : World) (n : Nat) : Below w.heap.size w (w.drewN n) := by
  induction n with
  | zero => exact Below.refl _ _
  | succ n ih => exact ih.drew
/-- What cutNumber answers. -/
def cutV (s : ByteArray) : Int × Nat × ByteArray :=
  if preI s ⟨#[48, 111]⟩ = true then (1, 8, s.extract 2 s.size)
  else if preI s ⟨#[48, 120]⟩ = true then (1, 16, s.extract 2 s.size)
  else if preI s ⟨#[45]⟩ = true then (-1, 10, s.extract 1 s.size)
  else (1, 10, trimI s ⟨#[43]⟩)
theorem pre_size {s t : ByteArray} (h : preI s t = true) : t.size ≤ s.size := by
  unfold preI at h
  exact (of_decide_eq_true h).1
set_option maxHeartbeats 1000000 in
theorem cut_I (s : ByteArray) (w : World) (sg : Int) (b : Nat) (d : ByteArray) (hr : cutV s = (sg, b, d)) :
    Calls Tryd.prog 19 #[.string s] w fun e w' => e = .returned (.tuple #[.int .i64 sg, .int .i64 (b : Int), .string d]) ∧ Below w.heap.size w w' := by
  cases p1 : preI s ⟨#[48, 111]⟩ with
  | true =>
    have h2 : 2 ≤ s.size := pre_size p1
    have h2' : (2 : Int) ≤ (s.size : Int) := by omega
    unfold cutV at hr
    rw [if_pos p1] at hr
    injection hr with e1 hr
    injection hr with e2 e3
    subst e1; subst e2; subst e3
    have H1 : Hid (true = preI s ⟨#[48, 111]⟩) := p1.symm
    clear p1 h2
    go_enter Tryd.func19, Tryd.ntmps19
    go_wp2_with fail
    refine (hp_I s _ _ true H1.out).mono ?_
    rintro e w1 ⟨rfl, rfl⟩
    go_wp2_with fail
    go_quiet (fail)
    go_wp2_with fail
    go_ret3
    exact ⟨rfl, by first | exact Below.refl _ _ | exact below_drewI _ _⟩
  | false =>
  have H1 : Hid (false = preI s ⟨#[48, 111]⟩) := p1.symm
  cases p2 : preI s ⟨#[48, 120]⟩ with
  | true =>
    have h2 : 2 ≤ s.size := pre_size p2
    have h2' : (2 : Int) ≤ (s.size : Int) := by omega
    unfold cutV at hr
    rw [if_neg (by rw [p1]; exact Bool.false_ne_true), if_pos p2] at hr
    injection hr with e1 hr
    injection hr with e2 e3
    subst e1; subst e2; subst e3
    have H2 : Hid (true = preI s ⟨#[48, 120]⟩) := p2.symm
    clear p1 p2 h2
    go_enter Tryd.func19, Tryd.ntmps19
    go_wp2_with fail
    refine (hp_I s _ _ false H1.out).mono ?_
    rintro e w1 ⟨rfl, rfl⟩
    go_wp2_with fail
    refine (hp_I s _ _ true H2.out).mono ?_
    rintro e w1 ⟨rfl, rfl⟩
    go_wp2_with fail
    go_quiet (fail)
    go_wp2_with fail
    go_ret3
    exact ⟨rfl, by first | exact Below.refl _ _ | exact below_drewI _ _⟩
  | false =>
  have H2 : Hid (false = preI s ⟨#[48, 120]⟩) := p2.symm
  cases p3 : preI s ⟨#[45]⟩ with
  | true =>
    have h2 : 1 ≤ s.size := pre_size p3
    have h2' : (1 : Int) ≤ (s.size : Int) := by omega
    unfold cutV at hr
    rw [if_neg (by rw [p1]; exact Bool.false_ne_true), if_neg (by rw [p2]; exact Bool.false_ne_true), if_pos p3] at hr
    injection hr with e1 hr
    injection hr with e2 e3
    subst e1; subst e2; subst e3
    have H3 : Hid (true = preI s ⟨#[45]⟩) := p3.symm
    clear p1 p2 p3 h2
    go_enter Tryd.func19, Tryd.ntmps19
    go_wp2_with fail
    refine (hp_I s _ _ false H1.out).mono ?_
    rintro e w1 ⟨rfl, rfl⟩
    go_wp2_with fail
    refine (hp_I s _ _ false H2.out).mono ?_
    rintro e w1 ⟨rfl, rfl⟩
    go_wp2_with fail
    refine (hp_I s _ _ true H3.out).mono ?_
    rintro e w1 ⟨rfl, rfl⟩
    go_wp2_with fail
    go_quiet (fail)
    go_wp2_with fail
    go_ret3
    exact ⟨rfl, by first | exact Below.refl _ _ | exact below_drewI _ _⟩
  | false =>
  have H3 : Hid (false = preI s ⟨#[45]⟩) := p3.symm
  unfold cutV at hr
  rw [if_neg (by rw [p1]; exact Bool.false_ne_true), if_neg (by rw [p2]; exact Bool.false_ne_true), if_neg (by rw [p3]; exact Bool.false_ne_true)] at hr
  injection hr with e1 hr
  injection hr with e2 e3
  subst e1; subst e2
  have H4 : Hid (trimI s ⟨#[43]⟩ = d) := e3
  clear p1 p2 p3 e3
  go_enter Tryd.func19, Tryd.ntmps19
  go_wp2_with fail
  refine (hp_I s _ _ false H1.out).mono ?_
  rintro e w1 ⟨rfl, rfl⟩
  go_wp2_with fail
  refine (hp_I s _ _ false H2.out).mono ?_
  rintro e w1 ⟨rfl, rfl⟩
  go_wp2_with fail
  refine (hp_I s _ _ false H3.out).mono ?_
  rintro e w1 ⟨rfl, rfl⟩
  go_wp2_with fail
  refine (tp_I s _ _ d H4.out).mono ?_
  rintro e w1 ⟨rfl, rfl⟩
  go_wp2_with fail
  go_ret3
  exact ⟨rfl, Below.refl _ _⟩
end Go.Proofs.YtlfamgdmmenonaaDoor
