/- impl's steps: what one is made of, and the contract of impl.stepOf. -/
import Derived.Test.YtmbbmibkjnlkkaaDoorJst
import Derived.Test.YtmbbmibkjnlkkaaDoorInu
import Derived.Test.YtmbbmibkjnlkkaaDoorBwr
import Derived.Test.YtmbbmibkjnlkkaaDoorHpb
import Derived.Deep.RegionHeld3
namespace Go.Proofs.YtmbbmibkjnlkkaaDoor
open Go.ChangeShapes Go.WideShapes Go.ChangeAt Go.RowKit
/-- What a step of that kind is made of. -/
def mkS (s : Sg) : Sg :=
  if s.kind = 1 then ⟨1, s.n, ⟨#[]⟩⟩
  else if s.kind = 2 then ⟨2, 0, s.text⟩
  else if s.kind = 3 then ⟨3, s.n, ⟨#[]⟩⟩
  else if s.kind = 4 then ⟨4, 0, ⟨#[]⟩⟩
  else ⟨5, 0, ⟨#[]⟩⟩
def stepK (s : Sg) : Value := if 1 ≤ s.kind ∧ s.kind ≤ 5 then stepV s else .nilIface
theorem emp_toList : (⟨#[]⟩ : ByteArray).toList = [] := by rw [ByteArray.toList_eq]
theorem nt_some (n : Int) : ((nt n).toList == []) = !(decide (0 ≤ n) && decide (n ≤ 4294967295)) := by
  by_cases h : n < 0 ∨ 4294967295 < n
  · rw [nt_bad n h, emp_toList]
    rcases h with h | h
    · rw [decide_eq_false (show ¬ 0 ≤ n by omega)]; rfl
    · rw [decide_eq_false (show ¬ n ≤ 4294967295 by omega), Bool.and_false]; rfl
  · rw [nt_good n (by omega) (by omega), decide_eq_true (show 0 ≤ n by omega), decide_eq_true (show n ≤ 4294967295 by omega)]
    have hd : Lib.decDigits n.toNat ≠ [] := by
      rw [Lib.decDigits]
      split
      · simp
      · simp
    rw [ByteArray.toList_eq]
    show ((Lib.decDigits n.toNat).toArray.toList == []) = _
    rw [beq_eq_false_iff_ne.2 (by simpa using hd)]
    rfl
/-- Right is what its kind's step is made of, with a number that may be. -/
theorem seg_ok (s : Sg) : segOk s = (decide (1 ≤ s.kind) && (decide (s.kind ≤ 5) && (segSame (mkS s) s && !((nt s.n).toList == [])))) := by
  rw [nt_some, Bool.not_not]
  unfold segOk
  by_cases k1 : 1 ≤ s.kind
  case neg => rw [decide_eq_false k1]; rfl
  by_cases k5 : s.kind ≤ 5
  case neg => rw [decide_eq_false k5]; simp
  rw [decide_eq_true k1, decide_eq_true k5]
  simp only [Bool.true_and]
  obtain ⟨k, n, t⟩ := s
  simp only at k1 k5 ⊢
  have hk : k = 1 ∨ k = 2 ∨ k = 3 ∨ k = 4 ∨ k = 5 := by omega
  unfold segSame mkS
  have e0 := emp_toList
  rcases hk with rfl | rfl | rfl | rfl | rfl
  · simp [e0, noT]
    rw [Bool.and_comm t.toList.isEmpty, Bool.and_assoc]
  · by_cases h : n = 0
    · subst h; simp
    · simp [h, Ne.symm h]
  · simp [e0, noT]
    rw [Bool.and_comm t.toList.isEmpty, Bool.and_assoc]
  · by_cases h : n = 0
    · subst h; simp [e0, noT]
    · simp [h, Ne.symm h]
  · by_cases h : n = 0
    · subst h; simp [e0, noT]
    · simp [h, Ne.symm h]
/-- A step of a kind's own. -/
theorem cellSeg {w : World} {a : Value} {b : Value} {c : Value} : (w.alloc (.cells #[a, b, c] 29)).heap[w.heap.size]? = some (.cells #[a, b, c] 29 (0, 0)) := heap_alloc_new w _
set_option maxHeartbeats 2000000 in
theorem segIndex (n : Int) (w : World) : Calls Tryd.prog 127 #[.int .i64 n] w fun e w' => e = .returned (.agg #[.int .i64 1, .int .i64 n, .string ⟨#[]⟩]) ∧ Below w.heap.size w w' := by
  have hF : Hid ((w.alloc (.cells #[.int .i64 1, .int .i64 n, .string ⟨#[]⟩] 29)).heap[w.heap.size]? = some (.cells #[.int .i64 1, .int .i64 n, .string ⟨#[]⟩] 29 (0, 0))) := cellSeg
  have hB : Hid (Below w.heap.size w (w.alloc (.cells #[.int .i64 1, .int .i64 n, .string ⟨#[]⟩] 29))) := (Below.refl _ w).alloc (Nat.le_refl _) _
  go_enter Tryd.func127, Tryd.ntmps127
  go_wp2_with fail
  refine bodyPost_ret (results_cell_row rfl _ _ w.heap.size 29 _ (0, 0) _ rfl hF.out Tryd.underlying29 rfl (by kernel_rfl)) rfl ?_
  exact ⟨rfl, hB.out⟩
set_option maxHeartbeats 2000000 in
theorem segKey (t : ByteArray) (w : World) : Calls Tryd.prog 130 #[.string t] w fun e w' => e = .returned (.agg #[.int .i64 2, .int .i64 0, .string t]) ∧ Below w.heap.size w w' := by
  have hF : Hid ((w.alloc (.cells #[.int .i64 2, .int .i64 0, .string t] 29)).heap[w.heap.size]? = some (.cells #[.int .i64 2, .int .i64 0, .string t] 29 (0, 0))) := cellSeg
  have hB : Hid (Below w.heap.size w (w.alloc (.cells #[.int .i64 2, .int .i64 0, .string t] 29))) := (Below.refl _ w).alloc (Nat.le_refl _) _
  go_enter Tryd.func130, Tryd.ntmps130
  go_wp2_with fail
  refine bodyPost_ret (results_cell_row rfl _ _ w.heap.size 29 _ (0, 0) _ rfl hF.out Tryd.underlying29 rfl (by kernel_rfl)) rfl ?_
  exact ⟨rfl, hB.out⟩
set_option maxHeartbeats 2000000 in
theorem segName (n : Int) (w : World) : Calls Tryd.prog 138 #[.int .i64 n] w fun e w' => e = .returned (.agg #[.int .i64 3, .int .i64 n, .string ⟨#[]⟩]) ∧ Below w.heap.size w w' := by
  have hF : Hid ((w.alloc (.cells #[.int .i64 3, .int .i64 n, .string ⟨#[]⟩] 29)).heap[w.heap.size]? = some (.cells #[.int .i64 3, .int .i64 n, .string ⟨#[]⟩] 29 (0, 0))) := cellSeg
  have hB : Hid (Below w.heap.size w (w.alloc (.cells #[.int .i64 3, .int .i64 n, .string ⟨#[]⟩] 29))) := (Below.refl _ w).alloc (Nat.le_refl _) _
  go_enter Tryd.func138, Tryd.ntmps138
  go_wp2_with fail
  refine bodyPost_ret (results_cell_row rfl _ _ w.heap.size 29 _ (0, 0) _ rfl hF.out Tryd.underlying29 rfl (by kernel_rfl)) rfl ?_
  exact ⟨rfl, hB.out⟩
set_option maxHeartbeats 2000000 in
theorem segAny (w : World) : Calls Tryd.prog 140 #[.agg #[]] w fun e w' => e = .returned (.agg #[.int .i64 4, .int .i64 0, .string ⟨#[]⟩]) ∧ Below w.heap.size w w' := by
  have hF : Hid (((w.alloc (.cells #[] 99)).alloc (.cells #[.int .i64 4, .int .i64 0, .string ⟨#[]⟩] 29)).heap[(w.heap.size + 1)]? = some (.cells #[.int .i64 4, .int .i64 0, .string ⟨#[]⟩] 29 (0, 0))) := by
    have := cellSeg (w := w.alloc (.cells #[] 99)) (a := .int .i64 4) (b := .int .i64 0) (c := .string ⟨#[]⟩)
    rwa [show (w.alloc (.cells #[] 99)).heap.size = w.heap.size + 1 by simp] at this
  have hB : Hid (Below w.heap.size w ((w.alloc (.cells #[] 99)).alloc (.cells #[.int .i64 4, .int .i64 0, .string ⟨#[]⟩] 29))) := ((Below.refl _ w).alloc (Nat.le_refl _) _).alloc (by simp) _
  go_enter Tryd.func140, Tryd.ntmps140
  go_wp2_with fail
  refine bodyPost_ret (results_cell_row rfl _ _ (w.heap.size + 1) 29 _ (0, 0) _ rfl hF.out Tryd.underlying29 rfl (by kernel_rfl)) rfl ?_
  exact ⟨rfl, hB.out⟩
set_option maxHeartbeats 2000000 in
theorem segDeep (w : World) : Calls Tryd.prog 142 #[.agg #[]] w fun e w' => e = .returned (.agg #[.int .i64 5, .int .i64 0, .string ⟨#[]⟩]) ∧ Below w.heap.size w w' := by
  have hF : Hid (((w.alloc (.cells #[] 100)).alloc (.cells #[.int .i64 5, .int .i64 0, .string ⟨#[]⟩] 29)).heap[(w.heap.size + 1)]? = some (.cells #[.int .i64 5, .int .i64 0, .string ⟨#[]⟩] 29 (0, 0))) := by
    have := cellSeg (w := w.alloc (.cells #[] 100)) (a := .int .i64 5) (b := .int .i64 0) (c := .string ⟨#[]⟩)
    rwa [show (w.alloc (.cells #[] 100)).heap.size = w.heap.size + 1 by simp] at this
  have hB : Hid (Below w.heap.size w ((w.alloc (.cells #[] 100)).alloc (.cells #[.int .i64 5, .int .i64 0, .string ⟨#[]⟩] 29))) := ((Below.refl _ w).alloc (Nat.le_refl _) _).alloc (by simp) _
  go_enter Tryd.func142, Tryd.ntmps142
  go_wp2_with fail
  refine bodyPost_ret (results_cell_row rfl _ _ (w.heap.size + 1) 29 _ (0, 0) _ rfl hF.out Tryd.underlying29 rfl (by kernel_rfl)) rfl ?_
  exact ⟨rfl, hB.out⟩
theorem mSegIndex (fu : Nat) (n : Int) (w : World) : (method (fu + 1) 95 (.int .i64 n) "loop.example/g00666/impl.seg").run Tryd.prog w = .ok (127, .int .i64 n) w := by kernel_rfl
theorem mSegKey (fu : Nat) (t : ByteArray) (w : World) : (method (fu + 1) 96 (.string t) "loop.example/g00666/impl.seg").run Tryd.prog w = .ok (130, .string t) w := by kernel_rfl
theorem mSegName (fu : Nat) (n : Int) (w : World) : (method (fu + 1) 97 (.int .i64 n) "loop.example/g00666/impl.seg").run Tryd.prog w = .ok (138, .int .i64 n) w := by kernel_rfl
theorem mSegAny (fu : Nat) (w : World) : (method (fu + 1) 99 (.agg #[]) "loop.example/g00666/impl.seg").run Tryd.prog w = .ok (140, .agg #[]) w := by kernel_rfl
theorem mSegDeep (fu : Nat) (w : World) : (method (fu + 1) 100 (.agg #[]) "loop.example/g00666/impl.seg").run Tryd.prog w = .ok (142, .agg #[]) w := by kernel_rfl
/-- A step in an interface: its method seg tells what it is made of. -/
structure StepI (v : Value) (g : Sg) : Prop where
  ex : ∃ (T : TypeId) (x : Value) (f : Nat), v = .iface T x ∧ (∀ fu w, (method (fu + 1) T x "loop.example/g00666/impl.seg").run Tryd.prog w = .ok (f, x) w) ∧ (∀ args w, (callFunc f args).run Tryd.prog w = .ok (.enter f args) w) ∧
    (∀ w, Calls Tryd.prog f #[x] w fun e w' => e = .returned (.agg g.row) ∧ Below w.heap.size w w')
theorem stepI (s : Sg) (h1 : 1 ≤ s.kind) (h5 : s.kind ≤ 5) : StepI (stepV s) (mkS s) := by
  obtain ⟨k, n, t⟩ := s
  simp only at h1 h5
  have hk : k = 1 ∨ k = 2 ∨ k = 3 ∨ k = 4 ∨ k = 5 := by omega
  rcases hk with rfl | rfl | rfl | rfl | rfl
  · exact ⟨_, _, _, rfl, fun fu w => mSegIndex fu n w, enters_of Tryd.func127 (by kernel_rfl) rfl, fun w => segIndex n w⟩
  · exact ⟨_, _, _, rfl, fun fu w => mSegKey fu t w, enters_of Tryd.func130 (by kernel_rfl) rfl, fun w => segKey t w⟩
  · exact ⟨_, _, _, rfl, fun fu w => mSegName fu n w, enters_of Tryd.func138 (by kernel_rfl) rfl, fun w => segName n w⟩
  · exact ⟨_, _, _, rfl, fun fu w => mSegAny fu w, enters_of Tryd.func140 (by kernel_rfl) rfl, fun w => segAny w⟩
  · exact ⟨_, _, _, rfl, fun fu w => mSegDeep fu w, enters_of Tryd.func142 (by kernel_rfl) rfl, fun w => segDeep w⟩
set_option maxHeartbeats 8000000 in
theorem stepOfKind_any (s : Sg) (w : World) : Calls Tryd.prog 50 #[.agg s.row] w fun e w' => e = .returned (stepK s) ∧ Below w.heap.size w w' := by
  obtain ⟨k, n, t⟩ := s
  unfold Sg.row
  simp only
  obtain ⟨V, hV⟩ : ∃ V, w.alloc (.cells #[.int .i64 k, .int .i64 n, .string t] 29) = V := ⟨_, rfl⟩
  have HV : Hid (w.alloc (.cells #[.int .i64 k, .int .i64 n, .string t] 29) = V) := hV
  have HB : Hid (Below w.heap.size w V) := by show Below _ _ _; rw [← hV]; exact (Below.refl _ w).alloc (Nat.le_refl _) _
  have hn : V.heap[w.heap.size]? = some (.cells #[.int .i64 k, .int .i64 n, .string t] 29 (0, 0)) := by rw [← hV]; exact heap_alloc_new w _
  obtain ⟨q0, q1, q2⟩ := row_atP hn
  clear hV hn
  by_cases k1 : k = 1
  · subst k1
    have HO : Hid (stepK ⟨1, n, t⟩ = .iface 95 (.int .i64 n)) := rfl
    rw [HO.out]
    go_enter Tryd.func50, Tryd.ntmps50
    go_wp2_with fail
    rw [HV.out]
    go_wp2_with fail
    go_ret
    exact ⟨rfl, HB.out⟩
  have e1 : (k == 1) = false := by rw [beq_eq_false_iff_ne]; exact k1
  by_cases k2 : k = 2
  · subst k2
    have HO : Hid (stepK ⟨2, n, t⟩ = .iface 96 (.string t)) := rfl
    rw [HO.out]
    clear e1 k1
    go_enter Tryd.func50, Tryd.ntmps50
    go_wp2_with fail
    rw [HV.out]
    go_wp2_with fail
    go_ret
    exact ⟨rfl, HB.out⟩
  have e2 : (k == 2) = false := by rw [beq_eq_false_iff_ne]; exact k2
  by_cases k3 : k = 3
  · subst k3
    have HO : Hid (stepK ⟨3, n, t⟩ = .iface 97 (.int .i64 n)) := rfl
    rw [HO.out]
    clear e1 k1 e2 k2
    go_enter Tryd.func50, Tryd.ntmps50
    go_wp2_with fail
    rw [HV.out]
    go_wp2_with fail
    go_ret
    exact ⟨rfl, HB.out⟩
  have e3 : (k == 3) = false := by rw [beq_eq_false_iff_ne]; exact k3
  by_cases k4 : k = 4
  · subst k4
    have HO : Hid (stepK ⟨4, n, t⟩ = .iface 99 (.agg #[])) := rfl
    rw [HO.out]
    clear e1 k1 e2 k2 e3 k3
    go_enter Tryd.func50, Tryd.ntmps50
    go_wp2_with fail
    rw [HV.out]
    go_wp2_with fail
    go_ret
    exact ⟨rfl, HB.out⟩
  have e4 : (k == 4) = false := by rw [beq_eq_false_iff_ne]; exact k4
  by_cases k5 : k = 5
  · subst k5
    have HO : Hid (stepK ⟨5, n, t⟩ = .iface 100 (.agg #[])) := rfl
    rw [HO.out]
    clear e1 k1 e2 k2 e3 k3 e4 k4
    go_enter Tryd.func50, Tryd.ntmps50
    go_wp2_with fail
    rw [HV.out]
    go_wp2_with fail
    go_ret
    exact ⟨rfl, HB.out⟩
  have e5 : (k == 5) = false := by rw [beq_eq_false_iff_ne]; exact k5
  have HO : Hid (stepK ⟨k, n, t⟩ = .nilIface) := by show stepK _ = _; unfold stepK; rw [if_neg (by show ¬ (1 ≤ k ∧ k ≤ 5); omega)]
  rw [HO.out]
  clear k1 k2 k3 k4 k5
  go_enter Tryd.func50, Tryd.ntmps50
  go_wp2_with fail
  rw [HV.out]
  go_wp2_with fail
  go_ret
  exact ⟨rfl, HB.out⟩
theorem equalIn_sgD (a0 a1 : Int) (a2 : ByteArray) (b0 b1 : Int) (b2 : ByteArray) (w : World) :
    (Op.equalIn 10000 29 (.agg #[.int .i64 a0, .int .i64 a1, .string a2]) (.agg #[.int .i64 b0, .int .i64 b1, .string b2])).run Tryd.prog w
      = .ok (a0 == b0 && (a1 == b1 && a2.toList == b2.toList)) w := by
  have hS : Tryd.prog.underlying 29 = some (.struct (Tryd.prog.fieldsOf 29)) := by kernel_rfl
  have hp : Tryd.prog.stoodInHeld 29 = false := by kernel_rfl
  rw [show (10000 : Nat) = 9999 + 1 from rfl, run_equalIn_agg w 9999 29 _ _ hS hp]
  simp only [Program.fieldsOf, Tryd.underlying29]
  go_simp
  by_cases h0 : a0 = b0
  case neg => simp [h0]
  by_cases h1 : a1 = b1
  case neg => simp [h0, h1]
  by_cases h2 : a2.toList = b2.toList
  case neg => simp [h0, h1, h2]
  simp [h0, h1, h2]
theorem ret_tb {v : Value} {a b : Bool} (h : a = b) : Ending.returned (.tuple #[v, .bool a]) = .returned (.tuple #[v, .bool b]) := by rw [h]
set_option maxHeartbeats 16000000 in
set_option maxRecDepth 100000 in
/-- A step of one of the five kinds. -/
theorem stepOf_in (s g : Sg) (v : Value) (hK : stepK s = v) (hI : StepI v g) (b : Bool) (hb : (segSame g s && !((nt s.n).toList == [])) = b) (w : World) (hV : TabV w) :
    Calls Tryd.prog 32 #[.agg s.row] w fun e w' => e = .returned (.tuple #[v, .bool b]) ∧ Below w.heap.size w w' := by
  obtain ⟨T, x, fS, rfl, mS, eS, cS⟩ := hI.ex
  have cK := fun w => stepOfKind_any s w
  rw [hK] at cK
  obtain ⟨gk, gn, gt⟩ := g
  obtain ⟨k, n, t⟩ := s
  unfold Sg.row at cK cS ⊢
  simp only at cK cS hb ⊢
  obtain ⟨V, hV1⟩ : ∃ V, w.alloc (.cells #[.int .i64 k, .int .i64 n, .string t] 29) = V := ⟨_, rfl⟩
  have HV : Hid (w.alloc (.cells #[.int .i64 k, .int .i64 n, .string t] 29) = V) := hV1
  have HB : Hid (Below w.heap.size w V) := by show Below _ _ _; rw [← hV1]; exact (Below.refl _ w).alloc (Nat.le_refl _) _
  have hn : V.heap[w.heap.size]? = some (.cells #[.int .i64 k, .int .i64 n, .string t] 29 (0, 0)) := by rw [← hV1]; exact heap_alloc_new w _
  obtain ⟨q0, q1, q2⟩ := row_atP hn
  have HN : Hid (V.heap[w.heap.size]? = some (.cells #[.int .i64 k, .int .i64 n, .string t] 29 (0, 0))) := hn
  have HTV : Hid (TabV V) := hV.lasts HB.out
  have HT : Hid (∀ u, TabV u → Calls Tryd.prog 51 #[.int .i64 n] u fun e w' => e = .returned (.string (nt n)) ∧ Below u.heap.size u w') := fun u hu => impl_nt n u hu
  have CK : Hid (∀ w, Calls Tryd.prog 50 #[.agg #[.int .i64 k, .int .i64 n, .string t]] w fun e w' => e = .returned (.iface T x) ∧ Below w.heap.size w w') := cK
  have hE : ∀ u, (Op.equalIn 10000 29 (.agg #[.int .i64 gk, .int .i64 gn, .string gt]) (.agg #[.int .i64 k, .int .i64 n, .string t])).run Tryd.prog u = .ok (segSame ⟨gk, gn, gt⟩ ⟨k, n, t⟩) u := fun u => equalIn_sgD _ _ _ _ _ _ u
  have HS : Hid (∀ u, Calls Tryd.prog fS #[x] u fun e w' => e = .returned (.agg #[.int .i64 gk, .int .i64 gn, .string gt]) ∧ Below u.heap.size u w') := cS
  have HO : Hid ((segSame ⟨gk, gn, gt⟩ ⟨k, n, t⟩ && !((nt n).toList == [])) = b) := hb
  clear hV1 hn hV cK hK cS hb
  generalize segSame ⟨gk, gn, gt⟩ ⟨k, n, t⟩ = sm at *
  go_enter Tryd.func32, Tryd.ntmps32
  go_wp2_with fail
  rw [HV.out]
  go_wp2_with fail
  refine (CK.out _).mono ?_
  rintro e w1 ⟨rfl, hb1⟩
  have HB1 : Hid (Below w.heap.size w w1) := HB.out.trans (hb1.mono HB.out.size)
  have HN1 : Hid (w1.heap[w.heap.size]? = some (.cells #[.int .i64 k, .int .i64 n, .string t] 29 (0, 0))) := (hb1.block _ (Array.getElem?_eq_some_iff.1 HN.out).1).trans HN.out
  have HTV1 : Hid (TabV w1) := HTV.out.lasts hb1
  have d0 : ∀ m : Bw w1, m.val.cell? ⟨w.heap.size, 0, none⟩ = some (.int .i64 k) := fun m => (row_atP ((m.ok.block _ (Array.getElem?_eq_some_iff.1 HN1.out).1).trans HN1.out)).1
  have d1 : ∀ m : Bw w1, m.val.cell? ⟨w.heap.size, 1, none⟩ = some (.int .i64 n) := fun m => (row_atP ((m.ok.block _ (Array.getElem?_eq_some_iff.1 HN1.out).1).trans HN1.out)).2.1
  have d2 : ∀ m : Bw w1, m.val.cell? ⟨w.heap.size, 2, none⟩ = some (.string t) := fun m => (row_atP ((m.ok.block _ (Array.getElem?_eq_some_iff.1 HN1.out).1).trans HN1.out)).2.2
  have hne := Bw.some w1
  have hC := Bw.calls (w := w1) (fun w' _ => HS.out w')
  have hT := Bw.calls (w := w1) (fun w' hw' => HT.out w' (HTV1.out.lasts hw'))
  clear q0 q1 q2 hb1
  cases hsm : sm with
  | false =>
    rw [hsm] at hE
    have HE : Hid (false = b) := by show _ = _; rw [← HO.out, hsm]; rfl
    clear hsm HO hT
    go_wp2_with fail
    refine wp_region_bw (w0 := w1) (by kernel_rfl) (by kernel_rfl) (Below.refl _ _) ?_
    repeat (go_big_quiet_step ((go_at_fn fS; exact hC _)))
    refine wpQuiet_nil ?_
    rintro _ ⟨m, rfl⟩
    have HO : Hid (Below w.heap.size w m.val) := HB1.out.trans (m.ok.mono HB1.out.size)
    generalize m.val = w2 at *
    clear hne d0 d1 d2 hC hE
    go_wp2_with fail
    go_ret2
    exact ⟨ret_tb HE.out, HO.out⟩
  | true =>
    rw [hsm] at hE
    obtain ⟨z, hz⟩ : ∃ z, nt n = z := ⟨_, rfl⟩
    rw [hz] at hT
    have HE : Hid ((!(z.toList == [])) = b) := by show _ = _; rw [← HO.out, hsm, hz]; rfl
    clear hsm HO HT hz
    by_cases hz : z.toList = []
    · have tz : (z.toList != []) = false := by rw [hz]; rfl
      have tz2 : (z.toList == []) = true := by rw [hz]; rfl
      have HE2 : Hid (false = b) := by show _ = _; rw [← HE.out, tz2]; rfl
      clear HE
      go_wp2_with fail
      refine wp_region_bw (w0 := w1) (by kernel_rfl) (by kernel_rfl) (Below.refl _ _) ?_
      repeat (go_big_quiet_step (first | (go_at_fn fS; exact hC _) | (go_at_call 51; exact hT _)))
      refine wpQuiet_nil ?_
      rintro _ ⟨m, rfl⟩
      have HO : Hid (Below w.heap.size w m.val) := HB1.out.trans (m.ok.mono HB1.out.size)
      generalize m.val = w2 at *
      clear hne d0 d1 d2 hC hE hT
      go_wp2_with fail
      go_ret2
      exact ⟨ret_tb HE2.out, HO.out⟩
    · have tz : (z.toList != []) = true := by rw [bne_iff_ne]; exact hz
      have tz2 : (z.toList == []) = false := by rw [beq_eq_false_iff_ne]; exact hz
      have HE2 : Hid (true = b) := by show _ = _; rw [← HE.out, tz2]; rfl
      clear HE
      go_wp2_with fail
      refine wp_region_bw (w0 := w1) (by kernel_rfl) (by kernel_rfl) (Below.refl _ _) ?_
      repeat (go_big_quiet_step (first | (go_at_fn fS; exact hC _) | (go_at_call 51; exact hT _)))
      refine wpQuiet_nil ?_
      rintro _ ⟨m, rfl⟩
      have HO : Hid (Below w.heap.size w m.val) := HB1.out.trans (m.ok.mono HB1.out.size)
      generalize m.val = w2 at *
      clear hne d0 d1 d2 hC hE hT
      go_wp2_with fail
      go_ret2
      exact ⟨ret_tb HE2.out, HO.out⟩
set_option maxHeartbeats 4000000 in
/-- A step of no kind. -/
theorem stepOf_out (s : Sg) (h : ¬ (1 ≤ s.kind ∧ s.kind ≤ 5)) (w : World) :
    Calls Tryd.prog 32 #[.agg s.row] w fun e w' => e = .returned (.tuple #[.nilIface, .bool false]) ∧ Below w.heap.size w w' := by
  have cK := fun w => stepOfKind_any s w
  rw [show stepK s = .nilIface by unfold stepK; rw [if_neg h]] at cK
  obtain ⟨k, n, t⟩ := s
  unfold Sg.row at cK ⊢
  simp only at cK ⊢
  obtain ⟨V, hV1⟩ : ∃ V, w.alloc (.cells #[.int .i64 k, .int .i64 n, .string t] 29) = V := ⟨_, rfl⟩
  have HV : Hid (w.alloc (.cells #[.int .i64 k, .int .i64 n, .string t] 29) = V) := hV1
  have HB : Hid (Below w.heap.size w V) := by show Below _ _ _; rw [← hV1]; exact (Below.refl _ w).alloc (Nat.le_refl _) _
  have hn : V.heap[w.heap.size]? = some (.cells #[.int .i64 k, .int .i64 n, .string t] 29 (0, 0)) := by rw [← hV1]; exact heap_alloc_new w _
  obtain ⟨q0, q1, q2⟩ := row_atP hn
  have CK : Hid (∀ w, Calls Tryd.prog 50 #[.agg #[.int .i64 k, .int .i64 n, .string t]] w fun e w' => e = .returned (.nilIface) ∧ Below w.heap.size w w') := cK
  clear hV1 hn cK h
  go_enter Tryd.func32, Tryd.ntmps32
  go_wp2_with fail
  rw [HV.out]
  go_wp2_with fail
  refine (CK.out _).mono ?_
  rintro e w1 ⟨rfl, hb1⟩
  have HB1 : Hid (Below w.heap.size w w1) := HB.out.trans (hb1.mono HB.out.size)
  have hne := Bw.some w1
  clear q0 q1 q2 hb1
  go_wp2_with fail
  refine wp_region_bw (w0 := w1) (by kernel_rfl) (by kernel_rfl) (Below.refl _ _) ?_
  repeat (go_big_quiet_step (fail))
  refine wpQuiet_nil ?_
  rintro _ ⟨m, rfl⟩
  have HO : Hid (Below w.heap.size w m.val) := HB1.out.trans (m.ok.mono HB1.out.size)
  generalize m.val = w2 at *
  clear hne
  go_wp2_with fail
  go_ret2
  exact ⟨rfl, HO.out⟩
theorem stepOf_any (s : Sg) (w : World) (hV : TabV w) :
    Calls Tryd.prog 32 #[.agg s.row] w fun e w' => (∃ v, e = .returned (.tuple #[v, .bool (segOk s)]) ∧ (segOk s = true → v = stepV s)) ∧ Below w.heap.size w w' := by
  by_cases h : 1 ≤ s.kind ∧ s.kind ≤ 5
  · have hk : stepK s = stepV s := by unfold stepK; rw [if_pos h]
    refine (stepOf_in s (mkS s) (stepV s) hk (stepI s h.1 h.2) _ rfl w hV).mono ?_
    rintro e w' ⟨rfl, hb⟩
    refine ⟨⟨_, ret_tb ?_, fun _ => rfl⟩, hb⟩
    rw [seg_ok, decide_eq_true h.1, decide_eq_true h.2]
    rfl
  · refine (stepOf_out s h w).mono ?_
    rintro e w' ⟨rfl, hb⟩
    have hf : segOk s = false := by
      rw [seg_ok]
      by_cases h1 : 1 ≤ s.kind
      · rw [decide_eq_false (show ¬ s.kind ≤ 5 from fun e => h ⟨h1, e⟩)]; simp
      · rw [decide_eq_false h1]; rfl
    exact ⟨⟨_, ret_tb hf.symm, fun e => by rw [hf] at e; cases e⟩, hb⟩
set_option maxHeartbeats 4000000 in
theorem implSk (s : Sg) (w : World) (hV : TabV w) : Calls Tryd.prog 12 #[.agg s.row] w fun e w' => e = .returned (.bool (segOk s)) ∧ Below w.heap.size w w' := by
  have cS := fun w (hV : TabV w) => stepOf_any s w hV
  generalize segOk s = b at cS ⊢
  generalize stepV s = sv at cS
  obtain ⟨k, n, t⟩ := s
  unfold Sg.row at cS ⊢
  simp only at cS ⊢
  obtain ⟨V, hV1⟩ : ∃ V, w.alloc (.cells #[.int .i64 k, .int .i64 n, .string t] 29) = V := ⟨_, rfl⟩
  have HV : Hid (w.alloc (.cells #[.int .i64 k, .int .i64 n, .string t] 29) = V) := hV1
  have HB : Hid (Below w.heap.size w V) := by show Below _ _ _; rw [← hV1]; exact (Below.refl _ w).alloc (Nat.le_refl _) _
  have hn : V.heap[w.heap.size]? = some (.cells #[.int .i64 k, .int .i64 n, .string t] 29 (0, 0)) := by rw [← hV1]; exact heap_alloc_new w _
  obtain ⟨q0, q1, q2⟩ := row_atP hn
  have CS : Hid (Calls Tryd.prog 32 #[.agg #[.int .i64 k, .int .i64 n, .string t]] V fun e w' => (∃ v, e = .returned (.tuple #[v, .bool b]) ∧ (b = true → v = sv)) ∧ Below V.heap.size V w') := cS V (hV.lasts HB.out)
  clear hV1 hn cS hV
  go_enter Tryd.func12, Tryd.ntmps12
  go_wp2_with fail
  rw [HV.out]
  go_wp2_with fail
  refine CS.out.mono ?_
  rintro e w1 ⟨⟨v, rfl, -⟩, hb1⟩
  have HB1 : Hid (Below w.heap.size w w1) := HB.out.trans (hb1.mono HB.out.size)
  clear q0 q1 q2 hb1
  go_wp2_with fail
  go_ret
  exact ⟨rfl, HB1.out⟩
end Go.Proofs.YtmbbmibkjnlkkaaDoor
