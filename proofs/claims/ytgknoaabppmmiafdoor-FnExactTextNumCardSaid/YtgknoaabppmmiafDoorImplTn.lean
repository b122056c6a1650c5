/- impl.TextNum answers what Tn says, and changes nothing that was there; so does the law over both. -/
import Derived.Test.YtgknoaabppmmiafDoorSpecTn
import Derived.Test.YtgknoaabppmmiafDoorAtoi
import Derived.Lib.AtoiErrMem
namespace Go.Proofs.YtgknoaabppmmiafDoor
open Go.ChangeShapes Go.WideShapes Go.ChangeAt Go.RowKit
theorem atoi_ok (s : ByteArray) (hs : s.size ≤ 1048576) (v : Int) (h : Lib.atoiAll s.data.toList = .ok v) (w : World) :
    Calls Tryd.prog 20 #[.string s] w fun e w' => e = .returned (.tuple #[.int .i64 v, .nilIface]) ∧ Below w.heap.size w w' := by
  refine (Tryd.strconv_Atoi_ok s (by omega) v h w).mono ?_
  rintro e w' ⟨rfl, rfl | ⟨t, rfl⟩⟩
  · exact ⟨rfl, Below.refl _ _⟩
  · exact ⟨rfl, Lib.bytesWorld_below _ _ _⟩
def AtoiErr (e : Ending) : Prop := ∃ v N, e = .returned (.tuple #[.int .i64 v, .iface 61 (.pointer (some ⟨N, 0, none⟩))])
theorem atoi_err (s : ByteArray) (hs : s.size ≤ 1048576) (h : ∀ v, Lib.atoiAll s.data.toList ≠ .ok v) (w : World) (tp tp' : TypeId) (p p' : Value)
    (h1 : w.var? Tryd.prog "strconv.ErrSyntax" = some #[.iface tp p]) (h2 : w.var? Tryd.prog "strconv.ErrRange" = some #[.iface tp' p']) :
    Calls Tryd.prog 20 #[.string s] w fun e w' => AtoiErr e ∧ Below w.heap.size w w' := by
  cases hr : Lib.atoiAll s.data.toList
  · exact absurd hr (h _)
  · refine (Any.strconv_Atoi_syntax_var Tryd.laysC172 s (by omega) hr tp p w h1).mono ?_
    rintro e w' ⟨N, rfl, _, _, hb⟩
    exact ⟨⟨_, N, rfl⟩, hb⟩
  · refine (Any.strconv_Atoi_range_var Tryd.laysC172 s (by omega) hr tp' p' w h2).mono ?_
    rintro e w' ⟨N, rfl, _, _, hb⟩
    exact ⟨⟨_, N, rfl⟩, hb⟩
theorem impl_nt_is (n : Int) (t : ByteArray) (w : World) (htab : Lib.TabIs Tryd.prog w "internal/strconv.uint64pow10" .u64 Lib.pow10Tab) (h : nt n = t) :
    Calls Tryd.prog 11 #[.int .i64 n] w fun e w' => e = .returned (.string t) ∧ Below w.heap.size w w' := by
  subst h; exact impl_nt n w htab
set_option maxHeartbeats 1000000 in
theorem impl_tn (s : ByteArray) (w : World) (hs : s.size ≤ 1048576) (htab : Lib.TabIs Tryd.prog w "internal/strconv.uint64pow10" .u64 Lib.pow10Tab) (tp tp' : TypeId) (p p' : Value)
    (h1 : w.var? Tryd.prog "strconv.ErrSyntax" = some #[.iface tp p]) (h2 : w.var? Tryd.prog "strconv.ErrRange" = some #[.iface tp' p']) :
    Calls Tryd.prog 13 #[.string s] w fun e w' => TnPost s e ∧ Below w.heap.size w w' := by
  have HT : Hid (Lib.TabIs Tryd.prog w "internal/strconv.uint64pow10" .u64 Lib.pow10Tab) := htab
  have H1 : Hid (w.var? Tryd.prog "strconv.ErrSyntax" = some #[.iface tp p]) := h1
  have H2 : Hid (w.var? Tryd.prog "strconv.ErrRange" = some #[.iface tp' p']) := h2
  clear htab h1 h2
  by_cases h : ∃ v, Lib.atoiAll s.data.toList = .ok v
  · obtain ⟨v, hv⟩ := h
    have HV : Hid (Lib.atoiAll s.data.toList = .ok v) := hv
    obtain ⟨t, ht⟩ : ∃ t, nt v = t := ⟨_, rfl⟩
    have Ht : Hid (nt v = t) := ht
    by_cases he : t = s
    · have HN : Hid (Tn s v true) := by
        have := Tn_ok v hv true (by rw [ht]; simpa using he)
        rw [if_pos rfl] at this
        exact this
      clear hv ht
      subst he
      go_enter Tryd.func13, Tryd.ntmps13
      go_wp2_with fail
      refine (atoi_ok _ hs v HV.out _).mono ?_
      rintro e w1 ⟨rfl, hb1⟩
      have HT1 : Hid (Lib.TabIs Tryd.prog w1 "internal/strconv.uint64pow10" .u64 Lib.pow10Tab) := Joins.tab_stays (g := 5) (by kernel_rfl) HT.out hb1 (Nat.le_refl _)
      go_wp2_with fail
      refine (impl_nt_is v _ _ HT1.out Ht.out).mono ?_
      rintro e w2 ⟨rfl, hb2⟩
      go_wp2_with fail
      go_ret2
      exact ⟨⟨_, _, rfl, HN.out⟩, hb1.trans (hb2.mono hb1.size)⟩
    · have HN : Hid (Tn s 0 false) := by
        have := Tn_ok v hv false (by rw [ht]; simpa using he)
        rw [if_neg (by decide)] at this
        exact this
      have hbe : (t.toList == s.toList) = false := by
        rw [beq_eq_false_iff_ne]
        intro h
        apply he
        rw [ByteArray.toList_eq, ByteArray.toList_eq] at h
        cases t; cases s; simp at h; simp [h]
      clear hv ht he
      go_enter Tryd.func13, Tryd.ntmps13
      go_wp2_with fail
      refine (atoi_ok _ hs v HV.out _).mono ?_
      rintro e w1 ⟨rfl, hb1⟩
      have HT1 : Hid (Lib.TabIs Tryd.prog w1 "internal/strconv.uint64pow10" .u64 Lib.pow10Tab) := Joins.tab_stays (g := 5) (by kernel_rfl) HT.out hb1 (Nat.le_refl _)
      go_wp2_with fail
      refine (impl_nt_is v _ _ HT1.out Ht.out).mono ?_
      rintro e w2 ⟨rfl, hb2⟩
      go_wp2_with fail
      go_ret2
      exact ⟨⟨_, _, rfl, HN.out⟩, hb1.trans (hb2.mono hb1.size)⟩
  · have h' : ∀ v, Lib.atoiAll s.data.toList ≠ .ok v := fun v hv => h ⟨v, hv⟩
    have HE : Hid (∀ v, Lib.atoiAll s.data.toList ≠ .ok v) := h'
    have HN : Hid (Tn s 0 false) := Tn_err h'
    clear h h'
    go_enter Tryd.func13, Tryd.ntmps13
    go_wp2_with fail
    refine (atoi_err _ hs HE.out _ tp tp' p p' H1.out H2.out).mono ?_
    rintro e w1 ⟨⟨v, N, rfl⟩, hb1⟩
    go_wp2_with fail
    go_ret2
    exact ⟨⟨_, _, rfl, HN.out⟩, hb1⟩
theorem law_tn (s : ByteArray) (w : World) (htab : Lib.TabIs Tryd.prog w "internal/strconv.uint64pow10" .u64 Lib.pow10Tab) (tp tp' : TypeId) (p p' : Value)
    (h1 : w.var? Tryd.prog "strconv.ErrSyntax" = some #[.iface tp p]) (h2 : w.var? Tryd.prog "strconv.ErrRange" = some #[.iface tp' p']) :
    Calls Tryd.prog 5 #[.string s] w fun e w' => e = .returned (.bool true) ∧ Below w.heap.size w w' := by
  have HT : Hid (Lib.TabIs Tryd.prog w "internal/strconv.uint64pow10" .u64 Lib.pow10Tab) := htab
  have H1 : Hid (w.var? Tryd.prog "strconv.ErrSyntax" = some #[.iface tp p]) := h1
  have H2 : Hid (w.var? Tryd.prog "strconv.ErrRange" = some #[.iface tp' p']) := h2
  clear htab h1 h2
  by_cases hbig : 1048576 < s.size
  · go_enter Tryd.func5, Tryd.ntmps5
    go_wp2_with fail
    go_ret
    exact ⟨rfl, Below.refl _ _⟩
  · have hs : s.size ≤ 1048576 := by omega
    clear hbig
    go_enter Tryd.func5, Tryd.ntmps5
    go_wp2_with fail
    refine (spec_tn s _).mono ?_
    rintro e w1 ⟨⟨v, b, rfl, hT⟩, hb1⟩
    have HA : Hid (Tn s v b) := hT
    clear hT
    have HT1 : Hid (Lib.TabIs Tryd.prog w1 "internal/strconv.uint64pow10" .u64 Lib.pow10Tab) := Joins.tab_stays (g := 5) (by kernel_rfl) HT.out hb1 (Nat.le_refl _)
    have H11 : Hid (w1.var? Tryd.prog "strconv.ErrSyntax" = some #[.iface tp p]) := Joins.var_stays (g := 0) (by kernel_rfl) H1.out hb1 (Nat.le_refl _)
    have H21 : Hid (w1.var? Tryd.prog "strconv.ErrRange" = some #[.iface tp' p']) := Joins.var_stays (g := 1) (by kernel_rfl) H2.out hb1 (Nat.le_refl _)
    go_wp2_with fail
    refine (impl_tn s _ hs HT1.out tp tp' p p' H11.out H21.out).mono ?_
    rintro e w2 ⟨⟨v', b', rfl, hT'⟩, hb2⟩
    obtain ⟨e1, e2⟩ := Tn_one HA.out hT'
    subst e1
    subst e2
    clear hT'
    cases b
    · go_wp2_with fail
      go_ret
      exact ⟨rfl, hb1.trans (hb2.mono hb1.size)⟩
    · go_wp2_with fail
      go_ret
      exact ⟨rfl, hb1.trans (hb2.mono hb1.size)⟩
end Go.Proofs.YtgknoaabppmmiafDoor
