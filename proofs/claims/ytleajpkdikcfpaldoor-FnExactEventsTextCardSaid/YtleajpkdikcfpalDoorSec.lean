/- The contract of spec.l09Escape. -/
import Derived.Test.YtleajpkdikcfpalDoorPec
import Derived.Lib.SlBytesConst
import Derived.OwnWalk
namespace Go.Proofs.YtleajpkdikcfpalDoor
open Go.ChangeShapes Go.WideShapes Go.ChangeAt Go.RowKit
theorem esc1_no {c : Nat} (h : c ∉ escA) : esc1 c = [c] := by
  unfold escA at h
  simp only [List.mem_cons, List.not_mem_nil, not_or] at h
  unfold esc1
  rw [if_neg h.1, if_neg h.2.1, if_neg h.2.2.1, if_neg h.2.2.2.1, if_neg h.2.2.2.2.1, if_neg h.2.2.2.2.2.1]
/-- What stands behind the bytes so far, once the byte was found or not. -/
def escD (c : Nat) (d : Bool) : List Nat := if d = true then esc1 c else []
def escV : Array Value := #[.int .u8 92, .int .u8 10, .int .u8 9, .int .u8 13, .int .u8 8, .int .u8 0]
theorem row_ne {w : World} {lo : Nat} {l : List Nat} {v : Value} (h : OwB lo l v w) {b : Nat} {cs : Array Value} {f : Nat × Nat} (hb : w.heap[b]? = some (.cells cs 5 f)) (hf : f ≠ (0, 0)) : v.ownBlock ≠ some b := by
  rcases h.2 with ⟨rfl, _⟩ | ⟨g, cap, cur, rfl, _, hg, _⟩
  · simp [Value.ownBlock]
  · intro e
    obtain rfl : g = b := by simpa [Value.ownBlock] using e
    rw [hb] at hg
    injection hg with hg
    injection hg with _ _ hg
    exact hf hg
theorem escV_at {w : World} {b : Nat} (h : w.heap[b]? = some (.cells escV 5 (6, 7))) : w.cell? ⟨b, 0, none⟩ = some (.int .u8 92) ∧ w.cell? ⟨b, 1, none⟩ = some (.int .u8 10) ∧ w.cell? ⟨b, 2, none⟩ = some (.int .u8 9) ∧ w.cell? ⟨b, 3, none⟩ = some (.int .u8 13) ∧ w.cell? ⟨b, 4, none⟩ = some (.int .u8 8) ∧ w.cell? ⟨b, 5, none⟩ = some (.int .u8 0) := by
  simp [World.cell?, h, escV]
set_option linter.unusedSimpArgs false in
set_option maxRecDepth 100000 in
set_option maxHeartbeats 16000000 in
theorem spec_escape (s : ByteArray) (w : World) (hs : s.size ≤ 1048576) (t : ByteArray) (ht : strN (escTo s s.size) = t) :
    Calls Tryd.prog 19 #[.string s] w fun e w' => e = .returned (.string t) ∧ Below w.heap.size w w' := by
  have HT : Hid (strN (escTo s s.size) = t) := ht
  clear ht
  go_enter Tryd.func19, Tryd.ntmps19
  go_wp2_with fail
  have HO0 : Hid (OwB w.heap.size (escTo s 0) (.slice (some ⟨w.heap.size, 0, none⟩) 0 0) (w.alloc (.cells #[] 5))) := World.ownsRow_made w #[] 0 (Nat.le_refl _) (Nat.zero_le _) rfl
  have HA0 : Hid (Below w.heap.size w (w.alloc (.cells #[] 5))) := (Below.refl _ w).alloc (Nat.le_refl _) _
  go_loopw [3, 4] (fun ov iv wr => ∃ i : Nat, iv = .int .i64 (i : Int) ∧ i ≤ s.size ∧ Hid (OwB w.heap.size (escTo s i) ov wr) ∧ Hid (Below w.heap.size w wr)) (fun _ iv _ => s.size - (intOf iv).toNat)
  case atStart => exact ⟨0, rfl, Nat.zero_le _, HO0, HA0⟩
  case round =>
    clear HO0 HA0
    obtain ⟨i, rfl, hi, HO, HBl⟩ := hrel
    by_cases hil : i < s.size
    · have hil' : (i : Int) < (s.size : Int) := by omega
      have HC : Hid ((s[i]'hil).toNat = bt s i) := bt_get s i hil
      have HL : Hid ((escTo s i).length ≤ 2 * i) := escTo_len s i
      obtain ⟨oa, oc, rfl⟩ := HO.out.sl
      obtain ⟨l0, hl0⟩ : ∃ l0, escTo s i = l0 := ⟨_, rfl⟩
      have HSt : Hid (escTo s (i + 1) = l0 ++ esc1 (bt s i)) := by rw [← hl0]; rfl
      rw [hl0] at HO HL ⊢
      clear hl0
      generalize hn0 : l0.length = n0 at *
      have hcv := fun (w : World) (C : Array Value) (n c : Nat) => Lib.run_convert_bytes_const (P := Tryd.prog) w 32 5 C n c Tryd.underlying32 Tryd.underlying5
      go_wp2_with fail
      clear hcv
      generalize (s[i]'hil).toNat = c at *
      have HCB : Hid (c = bt s i) := HC.out
      clear HC
      obtain ⟨B6, hB6⟩ : ∃ B6, wr.heap.size = B6 := ⟨_, rfl⟩
      obtain ⟨wA, hwA⟩ : ∃ wA, wr.alloc (.cells escV 5 (6, 7)) = wA := ⟨_, rfl⟩
      have HBA : Hid (Below w.heap.size w wA) := by rw [← hwA]; exact HBl.out.alloc HBl.out.size _
      have H6 : Hid (wA.heap[B6]? = some (.cells escV 5 (6, 7))) := by rw [← hwA, ← hB6]; exact heap_alloc_new wr _
      have HOA : Hid (OwB w.heap.size (l0 ++ escD c false) (.slice oa n0 oc) wA) := by
        rw [← hwA, show l0 ++ escD c false = l0 from List.append_nil _]
        exact HO.out.stays ((Below.refl _ wr).alloc (Nat.le_refl _) _)
      have HN0 : Hid (l0.length = n0) := hn0
      rw [show wr.alloc (Obj.cells #[Value.int IntKind.u8 92, Value.int IntKind.u8 10, Value.int IntKind.u8 9, Value.int IntKind.u8 13, Value.int IntKind.u8 8, Value.int IntKind.u8 0] 5 (6, 7)) = wA from hwA, hB6]
      clear hwA hB6 HO HBl hn0
      go_loopw [3, 6, 22] (fun ov dv jv wr => ∃ (j : Nat) (d : Bool), jv = .int .i64 (j : Int) ∧ j ≤ 6 ∧ dv = .bool d ∧ Hid (d = decide (c ∈ escA.take j)) ∧ Hid (OwB w.heap.size (l0 ++ escD c d) ov wr) ∧ Hid (wr.heap[B6]? = some (.cells escV 5 (6, 7))) ∧ Hid (Below w.heap.size w wr)) (fun _ _ jv _ => 6 - (intOf jv).toNat)
      case atStart => exact ⟨0, false, rfl, by omega, rfl, by show false = decide (c ∈ []); simp, HOA, H6, HBA⟩
      case round =>
        clear HOA H6 HBA
        obtain ⟨j, d, rfl, hj, rfl, HD, HO, H6, HBl⟩ := hrel
        by_cases hj6 : j < 6
        · obtain ⟨q0, q1, q2, q3, q4, q5⟩ := escV_at H6.out
          obtain ⟨ob, od, rfl⟩ := HO.out.sl
          generalize hn1 : (l0 ++ escD c d).length = n1 at *
          have HN1 : Hid ((l0 ++ escD c d).length = n1) := hn1
          clear hn1
          rcases (show j = 0 ∨ j = 1 ∨ j = 2 ∨ j = 3 ∨ j = 4 ∨ j = 5 by omega) with rfl | rfl | rfl | rfl | rfl | rfl
          · by_cases hc : c = 92
            · obtain rfl : d = false := by rw [HD.out, hc]; decide
              have hc' : ((c : Int) == 92) = true := by rw [beq_iff_eq, hc]; rfl
              have HCC : Hid (c = 92) := hc
              clear hc
              have hlen : (l0 ++ escD c false).length ≤ 100000000 := by have := HL.out; have := HN0.out; show (l0 ++ []).length ≤ _; rw [List.append_nil]; omega
              obtain ⟨v', w2, hrun, ⟨u0, u1, u2, rfl⟩, hO2, hB2, hot⟩ := HO.out.put HBl.out.size hlen [92, 92] (by decide) 32
              have hrun' : (Builtin.append_ #[32, 32] 32 #[.slice ob n1 od, .slice (some ⟨wr.heap.size, 0, none⟩) 2 2]).run Tryd.prog (wr.alloc (.cells #[.int .u8 92, .int .u8 92] 5)) = .ok (.slice u0 u1 u2) w2 := hrun
              have HO2 : Hid (OwB w.heap.size (l0 ++ escD c true) (.slice u0 u1 u2) w2) := by
                have h := hO2
                rw [show l0 ++ escD c false = l0 from List.append_nil _] at h
                rw [HCC.out]
                exact h
              have H62 : Hid (w2.heap[B6]? = some (.cells escV 5 (6, 7))) := (hot B6 (Array.getElem?_eq_some_iff.1 H6.out).1 (row_ne HO.out H6.out (by decide))).trans H6.out
              have HB2 : Hid (Below w.heap.size w w2) := HBl.out.trans hB2
              clear hrun hO2 hB2 hot hlen HD
              go_wp2_with (at_builtin; refine append_run rfl _ _ 32 rfl (.slice ob n1 od) (.slice (some ⟨wr.heap.size, 0, none⟩) 2 2) rfl rfl (.slice u0 u1 u2) w2 hrun' ?_)
              go_roundw
              case rel => exact ⟨1, true, rfl, by omega, rfl, by rw [HCC.out]; exact Eq.refl true, HO2, H62, HB2⟩
              case measure => simp [intOf]
            · have hc' : ((c : Int) == 92) = false := by rw [beq_eq_false_iff_ne]; omega
              have HD2 : Hid (d = decide (c ∈ escA.take 1)) := by
                show d = decide (c ∈ escA.take 1)
                rw [HD.out, Bool.eq_iff_iff, decide_eq_true_eq, decide_eq_true_eq]
                simp [escA, hc]
              clear HD hc
              go_wp2_with fail
              go_roundw
              case rel => exact ⟨1, d, rfl, by omega, rfl, HD2, HO, H6, HBl⟩
              case measure => simp [intOf]
          · by_cases hc : c = 10
            · obtain rfl : d = false := by rw [HD.out, hc]; decide
              have hc' : ((c : Int) == 10) = true := by rw [beq_iff_eq, hc]; rfl
              have HCC : Hid (c = 10) := hc
              clear hc
              have hlen : (l0 ++ escD c false).length ≤ 100000000 := by have := HL.out; have := HN0.out; show (l0 ++ []).length ≤ _; rw [List.append_nil]; omega
              obtain ⟨v', w2, hrun, ⟨u0, u1, u2, rfl⟩, hO2, hB2, hot⟩ := HO.out.put HBl.out.size hlen [92, 110] (by decide) 32
              have hrun' : (Builtin.append_ #[32, 32] 32 #[.slice ob n1 od, .slice (some ⟨wr.heap.size, 0, none⟩) 2 2]).run Tryd.prog (wr.alloc (.cells #[.int .u8 92, .int .u8 110] 5)) = .ok (.slice u0 u1 u2) w2 := hrun
              have HO2 : Hid (OwB w.heap.size (l0 ++ escD c true) (.slice u0 u1 u2) w2) := by
                have h := hO2
                rw [show l0 ++ escD c false = l0 from List.append_nil _] at h
                rw [HCC.out]
                exact h
              have H62 : Hid (w2.heap[B6]? = some (.cells escV 5 (6, 7))) := (hot B6 (Array.getElem?_eq_some_iff.1 H6.out).1 (row_ne HO.out H6.out (by decide))).trans H6.out
              have HB2 : Hid (Below w.heap.size w w2) := HBl.out.trans hB2
              clear hrun hO2 hB2 hot hlen HD
              go_wp2_with (at_builtin; refine append_run rfl _ _ 32 rfl (.slice ob n1 od) (.slice (some ⟨wr.heap.size, 0, none⟩) 2 2) rfl rfl (.slice u0 u1 u2) w2 hrun' ?_)
              go_roundw
              case rel => exact ⟨2, true, rfl, by omega, rfl, by rw [HCC.out]; exact Eq.refl true, HO2, H62, HB2⟩
              case measure => simp [intOf]
            · have hc' : ((c : Int) == 10) = false := by rw [beq_eq_false_iff_ne]; omega
              have HD2 : Hid (d = decide (c ∈ escA.take 2)) := by
                show d = decide (c ∈ escA.take 2)
                rw [HD.out, Bool.eq_iff_iff, decide_eq_true_eq, decide_eq_true_eq]
                simp [escA, hc]
              clear HD hc
              go_wp2_with fail
              go_roundw
              case rel => exact ⟨2, d, rfl, by omega, rfl, HD2, HO, H6, HBl⟩
              case measure => simp [intOf]
          · by_cases hc : c = 9
            · obtain rfl : d = false := by rw [HD.out, hc]; decide
              have hc' : ((c : Int) == 9) = true := by rw [beq_iff_eq, hc]; rfl
              have HCC : Hid (c = 9) := hc
              clear hc
              have hlen : (l0 ++ escD c false).length ≤ 100000000 := by have := HL.out; have := HN0.out; show (l0 ++ []).length ≤ _; rw [List.append_nil]; omega
              obtain ⟨v', w2, hrun, ⟨u0, u1, u2, rfl⟩, hO2, hB2, hot⟩ := HO.out.put HBl.out.size hlen [92, 116] (by decide) 32
              have hrun' : (Builtin.append_ #[32, 32] 32 #[.slice ob n1 od, .slice (some ⟨wr.heap.size, 0, none⟩) 2 2]).run Tryd.prog (wr.alloc (.cells #[.int .u8 92, .int .u8 116] 5)) = .ok (.slice u0 u1 u2) w2 := hrun
              have HO2 : Hid (OwB w.heap.size (l0 ++ escD c true) (.slice u0 u1 u2) w2) := by
                have h := hO2
                rw [show l0 ++ escD c false = l0 from List.append_nil _] at h
                rw [HCC.out]
                exact h
              have H62 : Hid (w2.heap[B6]? = some (.cells escV 5 (6, 7))) := (hot B6 (Array.getElem?_eq_some_iff.1 H6.out).1 (row_ne HO.out H6.out (by decide))).trans H6.out
              have HB2 : Hid (Below w.heap.size w w2) := HBl.out.trans hB2
              clear hrun hO2 hB2 hot hlen HD
              go_wp2_with (at_builtin; refine append_run rfl _ _ 32 rfl (.slice ob n1 od) (.slice (some ⟨wr.heap.size, 0, none⟩) 2 2) rfl rfl (.slice u0 u1 u2) w2 hrun' ?_)
              go_roundw
              case rel => exact ⟨3, true, rfl, by omega, rfl, by rw [HCC.out]; exact Eq.refl true, HO2, H62, HB2⟩
              case measure => simp [intOf]
            · have hc' : ((c : Int) == 9) = false := by rw [beq_eq_false_iff_ne]; omega
              have HD2 : Hid (d = decide (c ∈ escA.take 3)) := by
                show d = decide (c ∈ escA.take 3)
                rw [HD.out, Bool.eq_iff_iff, decide_eq_true_eq, decide_eq_true_eq]
                simp [escA, hc]
              clear HD hc
              go_wp2_with fail
              go_roundw
              case rel => exact ⟨3, d, rfl, by omega, rfl, HD2, HO, H6, HBl⟩
              case measure => simp [intOf]
          · by_cases hc : c = 13
            · obtain rfl : d = false := by rw [HD.out, hc]; decide
              have hc' : ((c : Int) == 13) = true := by rw [beq_iff_eq, hc]; rfl
              have HCC : Hid (c = 13) := hc
              clear hc
              have hlen : (l0 ++ escD c false).length ≤ 100000000 := by have := HL.out; have := HN0.out; show (l0 ++ []).length ≤ _; rw [List.append_nil]; omega
              obtain ⟨v', w2, hrun, ⟨u0, u1, u2, rfl⟩, hO2, hB2, hot⟩ := HO.out.put HBl.out.size hlen [92, 114] (by decide) 32
              have hrun' : (Builtin.append_ #[32, 32] 32 #[.slice ob n1 od, .slice (some ⟨wr.heap.size, 0, none⟩) 2 2]).run Tryd.prog (wr.alloc (.cells #[.int .u8 92, .int .u8 114] 5)) = .ok (.slice u0 u1 u2) w2 := hrun
              have HO2 : Hid (OwB w.heap.size (l0 ++ escD c true) (.slice u0 u1 u2) w2) := by
                have h := hO2
                rw [show l0 ++ escD c false = l0 from List.append_nil _] at h
                rw [HCC.out]
                exact h
              have H62 : Hid (w2.heap[B6]? = some (.cells escV 5 (6, 7))) := (hot B6 (Array.getElem?_eq_some_iff.1 H6.out).1 (row_ne HO.out H6.out (by decide))).trans H6.out
              have HB2 : Hid (Below w.heap.size w w2) := HBl.out.trans hB2
              clear hrun hO2 hB2 hot hlen HD
              go_wp2_with (at_builtin; refine append_run rfl _ _ 32 rfl (.slice ob n1 od) (.slice (some ⟨wr.heap.size, 0, none⟩) 2 2) rfl rfl (.slice u0 u1 u2) w2 hrun' ?_)
              go_roundw
              case rel => exact ⟨4, true, rfl, by omega, rfl, by rw [HCC.out]; exact Eq.refl true, HO2, H62, HB2⟩
              case measure => simp [intOf]
            · have hc' : ((c : Int) == 13) = false := by rw [beq_eq_false_iff_ne]; omega
              have HD2 : Hid (d = decide (c ∈ escA.take 4)) := by
                show d = decide (c ∈ escA.take 4)
                rw [HD.out, Bool.eq_iff_iff, decide_eq_true_eq, decide_eq_true_eq]
                simp [escA, hc]
              clear HD hc
              go_wp2_with fail
              go_roundw
              case rel => exact ⟨4, d, rfl, by omega, rfl, HD2, HO, H6, HBl⟩
              case measure => simp [intOf]
          · by_cases hc : c = 8
            · obtain rfl : d = false := by rw [HD.out, hc]; decide
              have hc' : ((c : Int) == 8) = true := by rw [beq_iff_eq, hc]; rfl
              have HCC : Hid (c = 8) := hc
              clear hc
              have hlen : (l0 ++ escD c false).length ≤ 100000000 := by have := HL.out; have := HN0.out; show (l0 ++ []).length ≤ _; rw [List.append_nil]; omega
              obtain ⟨v', w2, hrun, ⟨u0, u1, u2, rfl⟩, hO2, hB2, hot⟩ := HO.out.put HBl.out.size hlen [92, 98] (by decide) 32
              have hrun' : (Builtin.append_ #[32, 32] 32 #[.slice ob n1 od, .slice (some ⟨wr.heap.size, 0, none⟩) 2 2]).run Tryd.prog (wr.alloc (.cells #[.int .u8 92, .int .u8 98] 5)) = .ok (.slice u0 u1 u2) w2 := hrun
              have HO2 : Hid (OwB w.heap.size (l0 ++ escD c true) (.slice u0 u1 u2) w2) := by
                have h := hO2
                rw [show l0 ++ escD c false = l0 from List.append_nil _] at h
                rw [HCC.out]
                exact h
              have H62 : Hid (w2.heap[B6]? = some (.cells escV 5 (6, 7))) := (hot B6 (Array.getElem?_eq_some_iff.1 H6.out).1 (row_ne HO.out H6.out (by decide))).trans H6.out
              have HB2 : Hid (Below w.heap.size w w2) := HBl.out.trans hB2
              clear hrun hO2 hB2 hot hlen HD
              go_wp2_with (at_builtin; refine append_run rfl _ _ 32 rfl (.slice ob n1 od) (.slice (some ⟨wr.heap.size, 0, none⟩) 2 2) rfl rfl (.slice u0 u1 u2) w2 hrun' ?_)
              go_roundw
              case rel => exact ⟨5, true, rfl, by omega, rfl, by rw [HCC.out]; exact Eq.refl true, HO2, H62, HB2⟩
              case measure => simp [intOf]
            · have hc' : ((c : Int) == 8) = false := by rw [beq_eq_false_iff_ne]; omega
              have HD2 : Hid (d = decide (c ∈ escA.take 5)) := by
                show d = decide (c ∈ escA.take 5)
                rw [HD.out, Bool.eq_iff_iff, decide_eq_true_eq, decide_eq_true_eq]
                simp [escA, hc]
              clear HD hc
              go_wp2_with fail
              go_roundw
              case rel => exact ⟨5, d, rfl, by omega, rfl, HD2, HO, H6, HBl⟩
              case measure => simp [intOf]
          · by_cases hc : c = 0
            · obtain rfl : d = false := by rw [HD.out, hc]; decide
              have hc' : ((c : Int) == 0) = true := by rw [beq_iff_eq, hc]; rfl
              have HCC : Hid (c = 0) := hc
              clear hc
              have hlen : (l0 ++ escD c false).length ≤ 100000000 := by have := HL.out; have := HN0.out; show (l0 ++ []).length ≤ _; rw [List.append_nil]; omega
              obtain ⟨v', w2, hrun, ⟨u0, u1, u2, rfl⟩, hO2, hB2, hot⟩ := HO.out.put HBl.out.size hlen [92, 48] (by decide) 32
              have hrun' : (Builtin.append_ #[32, 32] 32 #[.slice ob n1 od, .slice (some ⟨wr.heap.size, 0, none⟩) 2 2]).run Tryd.prog (wr.alloc (.cells #[.int .u8 92, .int .u8 48] 5)) = .ok (.slice u0 u1 u2) w2 := hrun
              have HO2 : Hid (OwB w.heap.size (l0 ++ escD c true) (.slice u0 u1 u2) w2) := by
                have h := hO2
                rw [show l0 ++ escD c false = l0 from List.append_nil _] at h
                rw [HCC.out]
                exact h
              have H62 : Hid (w2.heap[B6]? = some (.cells escV 5 (6, 7))) := (hot B6 (Array.getElem?_eq_some_iff.1 H6.out).1 (row_ne HO.out H6.out (by decide))).trans H6.out
              have HB2 : Hid (Below w.heap.size w w2) := HBl.out.trans hB2
              clear hrun hO2 hB2 hot hlen HD
              go_wp2_with (at_builtin; refine append_run rfl _ _ 32 rfl (.slice ob n1 od) (.slice (some ⟨wr.heap.size, 0, none⟩) 2 2) rfl rfl (.slice u0 u1 u2) w2 hrun' ?_)
              go_roundw
              case rel => exact ⟨6, true, rfl, by omega, rfl, by rw [HCC.out]; exact Eq.refl true, HO2, H62, HB2⟩
              case measure => simp [intOf]
            · have hc' : ((c : Int) == 0) = false := by rw [beq_eq_false_iff_ne]; omega
              have HD2 : Hid (d = decide (c ∈ escA.take 6)) := by
                show d = decide (c ∈ escA.take 6)
                rw [HD.out, Bool.eq_iff_iff, decide_eq_true_eq, decide_eq_true_eq]
                simp [escA, hc]
              clear HD hc
              go_wp2_with fail
              go_roundw
              case rel => exact ⟨6, d, rfl, by omega, rfl, HD2, HO, H6, HBl⟩
              case measure => simp [intOf]
        · obtain rfl : j = 6 := by omega
          obtain ⟨ob, od, rfl⟩ := HO.out.sl
          generalize hn1 : (l0 ++ escD c d).length = n1 at *
          have HN1 : Hid ((l0 ++ escD c d).length = n1) := hn1
          clear hn1
          cases d with
          | true =>
            have HO2 : Hid (OwB w.heap.size (escTo s (i + 1)) (.slice ob n1 od) wr) := by
              rw [HSt.out, ← HCB.out]
              exact HO.out
            clear HO HD
            go_wp2_with fail
            go_roundw
            case rel => exact ⟨i + 1, by go_num, hil, HO2, HBl⟩
            case measure => simp [intOf]; omega
          | false =>
            have hno : c ∉ escA := by
              have h := HD.out
              intro hm
              rw [show escA.take 6 = escA from rfl, decide_eq_true hm] at h
              cases h
            have hlen : (l0 ++ escD c false).length ≤ 100000000 := by have := HL.out; have := HN0.out; show (l0 ++ []).length ≤ _; rw [List.append_nil]; omega
            obtain ⟨v', w2, hrun, ⟨u0, u1, u2, rfl⟩, hO2, hB2, hot⟩ := HO.out.put HBl.out.size hlen [c] (by simp) 32
            have hrun' : (Builtin.append_ #[32, 32] 32 #[.slice ob n1 od, .slice (some ⟨wr.heap.size, 0, none⟩) 1 1]).run Tryd.prog (wr.alloc (.cells #[.int .u8 (c : Int)] 5)) = .ok (.slice u0 u1 u2) w2 := hrun
            have HO2 : Hid (OwB w.heap.size (escTo s (i + 1)) (.slice u0 u1 u2) w2) := by
              have h := hO2
              rw [show l0 ++ escD c false = l0 from List.append_nil _] at h
              rw [HSt.out, ← HCB.out, esc1_no hno]
              exact h
            have HB2 : Hid (Below w.heap.size w w2) := HBl.out.trans hB2
            clear hrun hO2 hB2 hot hlen HD HO hno
            go_wp2_with (at_builtin; refine append_run rfl _ _ 32 rfl (.slice ob n1 od) (.slice (some ⟨wr.heap.size, 0, none⟩) 1 1) rfl rfl (.slice u0 u1 u2) w2 hrun' ?_)
            go_roundw
            case rel => exact ⟨i + 1, by go_num, hil, HO2, HB2⟩
            case measure => simp [intOf]; omega
    · have hil' : ¬ (i : Int) < (s.size : Int) := by omega
      obtain rfl : i = s.size := by omega
      obtain ⟨oa, oc, rfl⟩ := HO.out.sl
      have hcv := HO.out.conv
      rw [HT.out] at hcv
      generalize (escTo s s.size).length = n0 at *
      clear HO HT
      go_wp2_with fail
      go_ret
      exact ⟨rfl, HBl.out⟩
end Go.Proofs.YtleajpkdikcfpalDoor
