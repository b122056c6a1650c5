/- impl's plainWorth. -/
import Derived.Test.YtlfamgdmmenonaaDoorIpw
import Derived.Test.YtlfamgdmmenonaaDoorVpl
namespace Go.Proofs.YtlfamgdmmenonaaDoor
open Go.ChangeShapes Go.WideShapes Go.ChangeAt Go.RowKit
/-- A worth as the program has it: an interface with a type for each kind. -/
def wv (v : Va) : Value :=
  if v.kind = 1 then .iface 77 (.agg #[])
  else if v.kind = 2 then .iface 68 (.bool v.b)
  else if v.kind = 3 then .iface 70 (.int .i64 v.n)
  else if v.kind = 4 then .iface 71 (.string v.s)
  else if v.kind = 5 then .iface 75 (.agg #[])
  else if v.kind = 6 then .iface 76 (.agg #[])
  else if v.kind = 7 then .iface 72 (.string v.s)
  else if v.kind = 8 then .iface 73 (.string v.s)
  else .nilIface
theorem wv1 (n : Int) (b : Bool) (s : ByteArray) : wv ⟨1, n, b, s⟩ = .iface 77 (.agg #[]) := rfl
theorem wv2 (n : Int) (b : Bool) (s : ByteArray) : wv ⟨2, n, b, s⟩ = .iface 68 (.bool b) := rfl
theorem wv3 (n : Int) (b : Bool) (s : ByteArray) : wv ⟨3, n, b, s⟩ = .iface 70 (.int .i64 n) := rfl
theorem wv4 (n : Int) (b : Bool) (s : ByteArray) : wv ⟨4, n, b, s⟩ = .iface 71 (.string s) := rfl
theorem wv5 (n : Int) (b : Bool) (s : ByteArray) : wv ⟨5, n, b, s⟩ = .iface 75 (.agg #[]) := rfl
theorem wv6 (n : Int) (b : Bool) (s : ByteArray) : wv ⟨6, n, b, s⟩ = .iface 76 (.agg #[]) := rfl
theorem wv7 (n : Int) (b : Bool) (s : ByteArray) : wv ⟨7, n, b, s⟩ = .iface 72 (.string s) := rfl
theorem wv8 (n : Int) (b : Bool) (s : ByteArray) : wv ⟨8, n, b, s⟩ = .iface 73 (.string s) := rfl
theorem emp_no {s : ByteArray} (h : s.toList ≠ []) : s.toList.isEmpty = false := by
  rw [Bool.eq_false_iff]
  intro h2
  exact h (List.isEmpty_iff.1 h2)
theorem lst_no {s : ByteArray} {l : List UInt8} (h : s.toList ≠ l) : (s.toList == l) = false := beq_eq_false_iff_ne.2 h
theorem lst_yes {s : ByteArray} {l : List UInt8} (h : s.toList = l) : (s.toList == l) = true := by rw [h]; exact beq_self_eq_true l
set_option maxHeartbeats 4000000 in
theorem plainWorth_any (s : ByteArray) (w : World) (hs : s.size ≤ 1048576) (hv : NumV w) :
    Calls Tryd.prog 58 #[.string s] w fun e w' => e = .returned (wv (plV s)) ∧ Below w.heap.size w w' := by
  have cI := intOf_I s w hs hv
  by_cases e0 : s.toList = []
  · have HO : Hid (wv (plV s) = .iface 77 (.agg #[])) := by show _ = _; rw [plV_null (by rw [e0]; decide)]; rfl
    have f0 : s.toList.isEmpty = true := by rw [e0]; rfl
    clear e0 cI hs hv
    go_enter Tryd.func58, Tryd.ntmps58
    go_wp2_with fail
    go_ret
    exact ⟨congrArg Ending.returned HO.out.symm, Below.refl _ _⟩
  by_cases e1 : s.toList = [126]
  · have HO : Hid (wv (plV s) = .iface 77 (.agg #[])) := by show _ = _; rw [plV_null (by rw [e1]; decide)]; rfl
    have f0 := emp_no e0
    have f1 := lst_yes e1
    clear e0 e1 cI hs hv
    go_enter Tryd.func58, Tryd.ntmps58
    go_wp2_with fail
    go_ret
    exact ⟨congrArg Ending.returned HO.out.symm, Below.refl _ _⟩
  by_cases e2 : s.toList = [110, 117, 108, 108]
  · have HO : Hid (wv (plV s) = .iface 77 (.agg #[])) := by show _ = _; rw [plV_null (by rw [e2]; decide)]; rfl
    have f0 := emp_no e0
    have f1 := lst_no e1
    have f2 := lst_yes e2
    clear e0 e1 e2 cI hs hv
    go_enter Tryd.func58, Tryd.ntmps58
    go_wp2_with fail
    go_ret
    exact ⟨congrArg Ending.returned HO.out.symm, Below.refl _ _⟩
  by_cases e3 : s.toList = [78, 117, 108, 108]
  · have HO : Hid (wv (plV s) = .iface 77 (.agg #[])) := by show _ = _; rw [plV_null (by rw [e3]; decide)]; rfl
    have f0 := emp_no e0
    have f1 := lst_no e1
    have f2 := lst_no e2
    have f3 := lst_yes e3
    clear e0 e1 e2 e3 cI hs hv
    go_enter Tryd.func58, Tryd.ntmps58
    go_wp2_with fail
    go_ret
    exact ⟨congrArg Ending.returned HO.out.symm, Below.refl _ _⟩
  by_cases e4 : s.toList = [78, 85, 76, 76]
  · have HO : Hid (wv (plV s) = .iface 77 (.agg #[])) := by show _ = _; rw [plV_null (by rw [e4]; decide)]; rfl
    have f0 := emp_no e0
    have f1 := lst_no e1
    have f2 := lst_no e2
    have f3 := lst_no e3
    have f4 := lst_yes e4
    clear e0 e1 e2 e3 e4 cI hs hv
    go_enter Tryd.func58, Tryd.ntmps58
    go_wp2_with fail
    go_ret
    exact ⟨congrArg Ending.returned HO.out.symm, Below.refl _ _⟩
  by_cases e5 : s.toList = [116, 114, 117, 101]
  · have HO : Hid (wv (plV s) = .iface 68 (.bool true)) := by show _ = _; rw [plV_true (by rw [e5]; decide) (by rw [e5]; decide)]; rfl
    have f0 := emp_no e0
    have f1 := lst_no e1
    have f2 := lst_no e2
    have f3 := lst_no e3
    have f4 := lst_no e4
    have f5 := lst_yes e5
    clear e0 e1 e2 e3 e4 e5 cI hs hv
    go_enter Tryd.func58, Tryd.ntmps58
    go_wp2_with fail
    go_ret
    exact ⟨congrArg Ending.returned HO.out.symm, Below.refl _ _⟩
  by_cases e6 : s.toList = [84, 114, 117, 101]
  · have HO : Hid (wv (plV s) = .iface 68 (.bool true)) := by show _ = _; rw [plV_true (by rw [e6]; decide) (by rw [e6]; decide)]; rfl
    have f0 := emp_no e0
    have f1 := lst_no e1
    have f2 := lst_no e2
    have f3 := lst_no e3
    have f4 := lst_no e4
    have f5 := lst_no e5
    have f6 := lst_yes e6
    clear e0 e1 e2 e3 e4 e5 e6 cI hs hv
    go_enter Tryd.func58, Tryd.ntmps58
    go_wp2_with fail
    go_ret
    exact ⟨congrArg Ending.returned HO.out.symm, Below.refl _ _⟩
  by_cases e7 : s.toList = [84, 82, 85, 69]
  · have HO : Hid (wv (plV s) = .iface 68 (.bool true)) := by show _ = _; rw [plV_true (by rw [e7]; decide) (by rw [e7]; decide)]; rfl
    have f0 := emp_no e0
    have f1 := lst_no e1
    have f2 := lst_no e2
    have f3 := lst_no e3
    have f4 := lst_no e4
    have f5 := lst_no e5
    have f6 := lst_no e6
    have f7 := lst_yes e7
    clear e0 e1 e2 e3 e4 e5 e6 e7 cI hs hv
    go_enter Tryd.func58, Tryd.ntmps58
    go_wp2_with fail
    go_ret
    exact ⟨congrArg Ending.returned HO.out.symm, Below.refl _ _⟩
  by_cases e8 : s.toList = [102, 97, 108, 115, 101]
  · have HO : Hid (wv (plV s) = .iface 68 (.bool false)) := by show _ = _; rw [plV_false (by rw [e8]; decide) (by rw [e8]; decide) (by rw [e8]; decide)]; rfl
    have f0 := emp_no e0
    have f1 := lst_no e1
    have f2 := lst_no e2
    have f3 := lst_no e3
    have f4 := lst_no e4
    have f5 := lst_no e5
    have f6 := lst_no e6
    have f7 := lst_no e7
    have f8 := lst_yes e8
    clear e0 e1 e2 e3 e4 e5 e6 e7 e8 cI hs hv
    go_enter Tryd.func58, Tryd.ntmps58
    go_wp2_with fail
    go_ret
    exact ⟨congrArg Ending.returned HO.out.symm, Below.refl _ _⟩
  by_cases e9 : s.toList = [70, 97, 108, 115, 101]
  · have HO : Hid (wv (plV s) = .iface 68 (.bool false)) := by show _ = _; rw [plV_false (by rw [e9]; decide) (by rw [e9]; decide) (by rw [e9]; decide)]; rfl
    have f0 := emp_no e0
    have f1 := lst_no e1
    have f2 := lst_no e2
    have f3 := lst_no e3
    have f4 := lst_no e4
    have f5 := lst_no e5
    have f6 := lst_no e6
    have f7 := lst_no e7
    have f8 := lst_no e8
    have f9 := lst_yes e9
    clear e0 e1 e2 e3 e4 e5 e6 e7 e8 e9 cI hs hv
    go_enter Tryd.func58, Tryd.ntmps58
    go_wp2_with fail
    go_ret
    exact ⟨congrArg Ending.returned HO.out.symm, Below.refl _ _⟩
  by_cases e10 : s.toList = [70, 65, 76, 83, 69]
  · have HO : Hid (wv (plV s) = .iface 68 (.bool false)) := by show _ = _; rw [plV_false (by rw [e10]; decide) (by rw [e10]; decide) (by rw [e10]; decide)]; rfl
    have f0 := emp_no e0
    have f1 := lst_no e1
    have f2 := lst_no e2
    have f3 := lst_no e3
    have f4 := lst_no e4
    have f5 := lst_no e5
    have f6 := lst_no e6
    have f7 := lst_no e7
    have f8 := lst_no e8
    have f9 := lst_no e9
    have f10 := lst_yes e10
    clear e0 e1 e2 e3 e4 e5 e6 e7 e8 e9 e10 cI hs hv
    go_enter Tryd.func58, Tryd.ntmps58
    go_wp2_with fail
    go_ret
    exact ⟨congrArg Ending.returned HO.out.symm, Below.refl _ _⟩
  have n0 : s.toList ∉ nulls := by simp only [nulls, List.mem_cons, List.not_mem_nil, or_false]; simp only [e0, e1, e2, e3, e4, or_self, not_false_eq_true]
  have n1 : s.toList ∉ trues := by simp only [trues, List.mem_cons, List.not_mem_nil, or_false]; simp only [e5, e6, e7, or_self, not_false_eq_true]
  have n2 : s.toList ∉ falses := by simp only [falses, List.mem_cons, List.not_mem_nil, or_false]; simp only [e8, e9, e10, or_self, not_false_eq_true]
  have f0 := emp_no e0
  have f1 := lst_no e1
  have f2 := lst_no e2
  have f3 := lst_no e3
  have f4 := lst_no e4
  have f5 := lst_no e5
  have f6 := lst_no e6
  have f7 := lst_no e7
  have f8 := lst_no e8
  have f9 := lst_no e9
  have f10 := lst_no e10
  have HN : Hid (∀ r, numOf s = (r, true) → wv (plV s) = .iface 70 (.int .i64 r)) := fun r h => by rw [plV_num n0 n1 n2 h]; rfl
  have HT : Hid (∀ r, numOf s = (r, false) → wv (plV s) = .iface 71 (.string s)) := fun r h => by rw [plV_text n0 n1 n2 h]; rfl
  clear e0 e1 e2 e3 e4 e5 e6 e7 e8 e9 e10 n0 n1 n2 hs hv
  go_enter Tryd.func58, Tryd.ntmps58
  go_wp2_with fail
  refine cI.mono ?_
  rintro e w1 ⟨⟨r, b, rfl, hr⟩, hb1⟩
  cases b with
  | true =>
    have HO : Hid (wv (plV s) = .iface 70 (.int .i64 r)) := HN.out r hr
    clear hr
    go_wp2_with fail
    go_ret
    exact ⟨congrArg Ending.returned HO.out.symm, hb1⟩
  | false =>
    have HO : Hid (wv (plV s) = .iface 71 (.string s)) := HT.out r hr
    clear hr
    go_wp2_with fail
    go_ret
    exact ⟨congrArg Ending.returned HO.out.symm, hb1⟩
end Go.Proofs.YtlfamgdmmenonaaDoor
