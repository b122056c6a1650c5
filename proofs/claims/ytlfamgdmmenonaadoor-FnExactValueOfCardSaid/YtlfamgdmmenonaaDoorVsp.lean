/- spec's l14Among and l14Plain. -/
import Derived.Test.YtlfamgdmmenonaaDoorLat
import Derived.Test.YtlfamgdmmenonaaDoorSio
import Derived.Test.YtlfamgdmmenonaaDoorVpl
import Derived.Laws.ResultCell
import Derived.Laws.Rows
import Derived.Handy
namespace Go.Proofs.YtlfamgdmmenonaaDoor
open Go.ChangeShapes Go.WideShapes Go.ChangeAt Go.RowKit
set_option maxHeartbeats 1000000 in
theorem amg_any (s : ByteArray) (ls : List (List UInt8)) (n : Nat) (g c : Nat) (w : World) (b : Bool) (hn : ls.length = n) (hn2 : n ≤ 100) (hb : decide (s.toList ∈ ls) = b) (hc : ∀ j, (h : j < ls.length) → w.cell? ⟨g, j, none⟩ = some (.string ⟨(ls[j]).toArray⟩)) :
    Calls Tryd.prog 46 #[.string s, .slice (some ⟨g, 0, none⟩) n c] w fun e w' => e = .returned (.bool b) ∧ w' = w := by
  have HB : Hid (decide (s.toList ∈ ls) = b) := hb
  have HC : Hid (∀ j, (h : j < ls.length) → w.cell? ⟨g, j, none⟩ = some (.string ⟨(ls[j]).toArray⟩)) := hc
  have HN : Hid (ls.length = n) := hn
  have hnI : (n : Int) ≤ 100 := by omega
  clear hb hc hn hn2
  go_enter Tryd.func46, Tryd.ntmps46
  go_wp2_with fail
  go_loop [9] (fun vi => ∃ k : Nat, vi = .int .i64 k ∧ k ≤ n ∧ Hid (∀ j, (h : j < ls.length) → j < k → ls[j] ≠ s.toList)) (fun vi => n - (intOf vi).toNat)
  case atStart => exact ⟨0, rfl, by omega, fun j _ h => by omega⟩
  case round =>
    obtain ⟨k, rfl, hk, HR⟩ := hrel
    by_cases hlt : k < n
    · have hll : k < ls.length := by rw [HN.out]; exact hlt
      have hcell := HC.out k hll
      obtain ⟨x, hx⟩ : ∃ x : ByteArray, (⟨(ls[k]).toArray⟩ : ByteArray) = x := ⟨_, rfl⟩
      have hxl : x.toList = ls[k] := by rw [← hx, ByteArray.toList_eq]
      rw [hx] at hcell
      have hltI : (k : Int) < (n : Int) := by omega
      by_cases he : x.toList = s.toList
      · have hq : (x.toList == s.toList) = true := by rw [he]; exact beq_self_eq_true _
        have HO : Hid (b = true) := by
          show b = true
          rw [← HB.out, decide_eq_true_eq, ← he, hxl]
          exact List.getElem_mem hll
        clear he hx hxl hll
        go_wp2_with fail
        go_ret
        exact ⟨ret_bool HO.out.symm, rfl⟩
      · have hq : (x.toList == s.toList) = false := beq_eq_false_iff_ne.2 he
        have HR2 : Hid (∀ j, (h : j < ls.length) → j < k + 1 → ls[j] ≠ s.toList) := fun j h hj => by
          by_cases e : j = k
          · subst e
            rw [← hxl]
            exact he
          · exact HR.out j h (by omega)
        clear he hx hxl hll HR
        go_wp2_with fail
        go_round
        case rel => exact ⟨k + 1, by go_num, by omega, HR2⟩
        case measure => simp [intOf]; omega
    · have HO : Hid (b = false) := by
        show b = false
        rw [← HB.out, decide_eq_false_iff_not]
        intro hm
        obtain ⟨j, hj, he⟩ := List.getElem_of_mem hm
        exact HR.out j hj (by have := HN.out; omega) he
      have hle : ¬ (k : Int) < (n : Int) := by omega
      clear HR
      go_wp2_with fail
      go_ret
      exact ⟨ret_bool HO.out.symm, rfl⟩
theorem amongN (s : ByteArray) (g : Nat) (w : World) (b : Bool) (hb : decide (s.toList ∈ nulls) = b) (fr : Nat × Nat) (t : TypeId) (h : w.heap[g]? = some (.cells #[.string ⟨#[]⟩, .string ⟨#[126]⟩, .string ⟨#[110, 117, 108, 108]⟩, .string ⟨#[78, 117, 108, 108]⟩, .string ⟨#[78, 85, 76, 76]⟩] t fr)) :
    Calls Tryd.prog 46 #[.string s, .slice (some ⟨g, 0, none⟩) 5 5] w fun e w' => e = .returned (.bool b) ∧ w' = w :=
  amg_any s nulls 5 g 5 w b rfl (by decide) hb (fun j hj => by
    have hj : j < 5 := hj
    match j, hj with
    | 0, _ => simp [World.cell?, h, nulls]
    | 1, _ => simp [World.cell?, h, nulls]
    | 2, _ => simp [World.cell?, h, nulls]
    | 3, _ => simp [World.cell?, h, nulls]
    | 4, _ => simp [World.cell?, h, nulls])
theorem amongT (s : ByteArray) (g : Nat) (w : World) (b : Bool) (hb : decide (s.toList ∈ trues) = b) (fr : Nat × Nat) (t : TypeId) (h : w.heap[g]? = some (.cells #[.string ⟨#[116, 114, 117, 101]⟩, .string ⟨#[84, 114, 117, 101]⟩, .string ⟨#[84, 82, 85, 69]⟩] t fr)) :
    Calls Tryd.prog 46 #[.string s, .slice (some ⟨g, 0, none⟩) 3 3] w fun e w' => e = .returned (.bool b) ∧ w' = w :=
  amg_any s trues 3 g 3 w b rfl (by decide) hb (fun j hj => by
    have hj : j < 3 := hj
    match j, hj with
    | 0, _ => simp [World.cell?, h, trues]
    | 1, _ => simp [World.cell?, h, trues]
    | 2, _ => simp [World.cell?, h, trues])
theorem amongF (s : ByteArray) (g : Nat) (w : World) (b : Bool) (hb : decide (s.toList ∈ falses) = b) (fr : Nat × Nat) (t : TypeId) (h : w.heap[g]? = some (.cells #[.string ⟨#[102, 97, 108, 115, 101]⟩, .string ⟨#[70, 97, 108, 115, 101]⟩, .string ⟨#[70, 65, 76, 83, 69]⟩] t fr)) :
    Calls Tryd.prog 46 #[.string s, .slice (some ⟨g, 0, none⟩) 3 3] w fun e w' => e = .returned (.bool b) ∧ w' = w :=
  amg_any s falses 3 g 3 w b rfl (by decide) hb (fun j hj => by
    have hj : j < 3 := hj
    match j, hj with
    | 0, _ => simp [World.cell?, h, falses]
    | 1, _ => simp [World.cell?, h, falses]
    | 2, _ => simp [World.cell?, h, falses])
set_option maxHeartbeats 4000000 in
set_option maxRecDepth 100000 in
theorem l14Plain_any (s : ByteArray) (w : World) (hm : s.size ≤ 4611686018427387903) :
    Calls Tryd.prog 28 #[.string s] w fun e w' => e = .returned (.agg (plV s).row) ∧ Below w.heap.size w w' := by
  have cI : Hid (∀ w', Calls Tryd.prog 11 #[.string s] w' fun e w'' => NumP s e ∧ w'' = w') := fun w' => spec_intOf s hm w'
  by_cases m1 : s.toList ∈ nulls
  · have H1 : Hid (decide (s.toList ∈ nulls) = true) := decide_eq_true m1
    have HP : Hid (plV s = ⟨1, 0, false, ⟨#[]⟩⟩) := plV_null m1
    clear m1
    go_enter Tryd.func28, Tryd.ntmps28
    go_wp2_with fail
    refine (cI.out _).mono ?_
    rintro e w1 ⟨⟨r, b, rfl, hr⟩, hw1⟩
    subst hw1
    clear hr cI
    go_wp2_with fail
    refine (amongN s _ _ true H1.out (0, 0) 9 ?_).mono ?_
    · show ((w.heap.push _).push _)[w.heap.size + 1]? = _
      rw [Array.getElem?_push, if_pos (by simp)]
    rintro e w2 ⟨rfl, hw2⟩
    subst hw2
    go_wp2_with fail
    have hF : Hid (((w.alloc (.cells #[.int .i64 1, .int .i64 0, .bool false, .string ⟨#[]⟩] 28)).alloc (.cells #[.string ⟨#[]⟩, .string ⟨#[126]⟩, .string ⟨#[110, 117, 108, 108]⟩, .string ⟨#[78, 117, 108, 108]⟩, .string ⟨#[78, 85, 76, 76]⟩] 9)).heap[w.heap.size]? = some (.cells #[.int .i64 1, .int .i64 0, .bool false, .string ⟨#[]⟩] 28 (0, 0))) := by
      show ((w.heap.push _).push _)[w.heap.size]? = _
      rw [Array.getElem?_push, if_neg (by simp <;> omega), Array.getElem?_push, if_pos rfl]
    have hB : Hid (Below w.heap.size w ((w.alloc (.cells #[.int .i64 1, .int .i64 0, .bool false, .string ⟨#[]⟩] 28)).alloc (.cells #[.string ⟨#[]⟩, .string ⟨#[126]⟩, .string ⟨#[110, 117, 108, 108]⟩, .string ⟨#[78, 117, 108, 108]⟩, .string ⟨#[78, 85, 76, 76]⟩] 9))) := ((Below.refl _ w).alloc (Nat.le_refl _) _).alloc (by simp) _
    refine bodyPost_ret (results_cell_row rfl _ _ w.heap.size 28 _ (0, 0) _ rfl hF.out Tryd.underlying28 rfl (by kernel_rfl)) rfl ?_
    exact ⟨congrArg (fun v : Va => Ending.returned (.agg v.row)) HP.out.symm, hB.out⟩
  have H1 : Hid (decide (s.toList ∈ nulls) = false) := decide_eq_false m1
  by_cases m2 : s.toList ∈ trues
  · have H2 : Hid (decide (s.toList ∈ trues) = true) := decide_eq_true m2
    have HP : Hid (plV s = ⟨2, 0, true, ⟨#[]⟩⟩) := plV_true m1 m2
    clear m1 m2
    go_enter Tryd.func28, Tryd.ntmps28
    go_wp2_with fail
    refine (cI.out _).mono ?_
    rintro e w1 ⟨⟨r, b, rfl, hr⟩, hw1⟩
    subst hw1
    clear hr cI
    go_wp2_with fail
    refine (amongN s _ _ false H1.out (0, 0) 9 ?_).mono ?_
    · show ((w.heap.push _).push _)[w.heap.size + 1]? = _
      rw [Array.getElem?_push, if_pos (by simp)]
    rintro e w2 ⟨rfl, hw2⟩
    subst hw2
    go_wp2_with fail
    refine (amongT s _ _ true H2.out (0, 0) 9 ?_).mono ?_
    · show (((w.heap.push _).push _).push _)[w.heap.size + 2]? = _
      rw [Array.getElem?_push, if_pos (by simp)]
    rintro e w2 ⟨rfl, hw2⟩
    subst hw2
    go_wp2_with fail
    have hF : Hid ((((w.alloc (.cells #[.int .i64 2, .int .i64 0, .bool true, .string ⟨#[]⟩] 28)).alloc (.cells #[.string ⟨#[]⟩, .string ⟨#[126]⟩, .string ⟨#[110, 117, 108, 108]⟩, .string ⟨#[78, 117, 108, 108]⟩, .string ⟨#[78, 85, 76, 76]⟩] 9)).alloc (.cells #[.string ⟨#[116, 114, 117, 101]⟩, .string ⟨#[84, 114, 117, 101]⟩, .string ⟨#[84, 82, 85, 69]⟩] 9)).heap[w.heap.size]? = some (.cells #[.int .i64 2, .int .i64 0, .bool true, .string ⟨#[]⟩] 28 (0, 0))) := by
      show (((w.heap.push _).push _).push _)[w.heap.size]? = _
      rw [Array.getElem?_push, if_neg (by simp <;> omega), Array.getElem?_push, if_neg (by simp <;> omega), Array.getElem?_push, if_pos rfl]
    have hB : Hid (Below w.heap.size w (((w.alloc (.cells #[.int .i64 2, .int .i64 0, .bool true, .string ⟨#[]⟩] 28)).alloc (.cells #[.string ⟨#[]⟩, .string ⟨#[126]⟩, .string ⟨#[110, 117, 108, 108]⟩, .string ⟨#[78, 117, 108, 108]⟩, .string ⟨#[78, 85, 76, 76]⟩] 9)).alloc (.cells #[.string ⟨#[116, 114, 117, 101]⟩, .string ⟨#[84, 114, 117, 101]⟩, .string ⟨#[84, 82, 85, 69]⟩] 9))) := (((Below.refl _ w).alloc (Nat.le_refl _) _).alloc (by simp) _).alloc (by simp; omega) _
    refine bodyPost_ret (results_cell_row rfl _ _ w.heap.size 28 _ (0, 0) _ rfl hF.out Tryd.underlying28 rfl (by kernel_rfl)) rfl ?_
    exact ⟨congrArg (fun v : Va => Ending.returned (.agg v.row)) HP.out.symm, hB.out⟩
  have H2 : Hid (decide (s.toList ∈ trues) = false) := decide_eq_false m2
  by_cases m3 : s.toList ∈ falses
  · have H3 : Hid (decide (s.toList ∈ falses) = true) := decide_eq_true m3
    have HP : Hid (plV s = ⟨2, 0, false, ⟨#[]⟩⟩) := plV_false m1 m2 m3
    clear m1 m2 m3
    go_enter Tryd.func28, Tryd.ntmps28
    go_wp2_with fail
    refine (cI.out _).mono ?_
    rintro e w1 ⟨⟨r, b, rfl, hr⟩, hw1⟩
    subst hw1
    clear hr cI
    go_wp2_with fail
    refine (amongN s _ _ false H1.out (0, 0) 9 ?_).mono ?_
    · show ((w.heap.push _).push _)[w.heap.size + 1]? = _
      rw [Array.getElem?_push, if_pos (by simp)]
    rintro e w2 ⟨rfl, hw2⟩
    subst hw2
    go_wp2_with fail
    refine (amongT s _ _ false H2.out (0, 0) 9 ?_).mono ?_
    · show (((w.heap.push _).push _).push _)[w.heap.size + 2]? = _
      rw [Array.getElem?_push, if_pos (by simp)]
    rintro e w2 ⟨rfl, hw2⟩
    subst hw2
    go_wp2_with fail
    refine (amongF s _ _ true H3.out (0, 0) 9 ?_).mono ?_
    · show ((((w.heap.push _).push _).push _).push _)[w.heap.size + 3]? = _
      rw [Array.getElem?_push, if_pos (by simp)]
    rintro e w2 ⟨rfl, hw2⟩
    subst hw2
    go_wp2_with fail
    have hF : Hid (((((w.alloc (.cells #[.int .i64 2, .int .i64 0, .bool false, .string ⟨#[]⟩] 28)).alloc (.cells #[.string ⟨#[]⟩, .string ⟨#[126]⟩, .string ⟨#[110, 117, 108, 108]⟩, .string ⟨#[78, 117, 108, 108]⟩, .string ⟨#[78, 85, 76, 76]⟩] 9)).alloc (.cells #[.string ⟨#[116, 114, 117, 101]⟩, .string ⟨#[84, 114, 117, 101]⟩, .string ⟨#[84, 82, 85, 69]⟩] 9)).alloc (.cells #[.string ⟨#[102, 97, 108, 115, 101]⟩, .string ⟨#[70, 97, 108, 115, 101]⟩, .string ⟨#[70, 65, 76, 83, 69]⟩] 9)).heap[w.heap.size]? = some (.cells #[.int .i64 2, .int .i64 0, .bool false, .string ⟨#[]⟩] 28 (0, 0))) := by
      show ((((w.heap.push _).push _).push _).push _)[w.heap.size]? = _
      rw [Array.getElem?_push, if_neg (by simp <;> omega), Array.getElem?_push, if_neg (by simp <;> omega), Array.getElem?_push, if_neg (by simp <;> omega), Array.getElem?_push, if_pos rfl]
    have hB : Hid (Below w.heap.size w ((((w.alloc (.cells #[.int .i64 2, .int .i64 0, .bool false, .string ⟨#[]⟩] 28)).alloc (.cells #[.string ⟨#[]⟩, .string ⟨#[126]⟩, .string ⟨#[110, 117, 108, 108]⟩, .string ⟨#[78, 117, 108, 108]⟩, .string ⟨#[78, 85, 76, 76]⟩] 9)).alloc (.cells #[.string ⟨#[116, 114, 117, 101]⟩, .string ⟨#[84, 114, 117, 101]⟩, .string ⟨#[84, 82, 85, 69]⟩] 9)).alloc (.cells #[.string ⟨#[102, 97, 108, 115, 101]⟩, .string ⟨#[70, 97, 108, 115, 101]⟩, .string ⟨#[70, 65, 76, 83, 69]⟩] 9))) := ((((Below.refl _ w).alloc (Nat.le_refl _) _).alloc (by simp) _).alloc (by simp; omega) _).alloc (by simp; omega) _
    refine bodyPost_ret (results_cell_row rfl _ _ w.heap.size 28 _ (0, 0) _ rfl hF.out Tryd.underlying28 rfl (by kernel_rfl)) rfl ?_
    exact ⟨congrArg (fun v : Va => Ending.returned (.agg v.row)) HP.out.symm, hB.out⟩
  have H3 : Hid (decide (s.toList ∈ falses) = false) := decide_eq_false m3
  have HPN : Hid (∀ r, numOf s = (r, true) → plV s = ⟨3, r, false, ⟨#[]⟩⟩) := fun r h => plV_num m1 m2 m3 h
  have HPT : Hid (∀ r, numOf s = (r, false) → plV s = ⟨4, 0, false, s⟩) := fun r h => plV_text m1 m2 m3 h
  clear m1 m2 m3
  go_enter Tryd.func28, Tryd.ntmps28
  go_wp2_with fail
  refine (cI.out _).mono ?_
  rintro e w1 ⟨⟨r, b, rfl, hr⟩, hw1⟩
  subst hw1
  have HNr : Hid (numOf s = (r, b)) := hr
  clear hr cI
  go_wp2_with fail
  refine (amongN s _ _ false H1.out (0, 0) 9 ?_).mono ?_
  · show ((w.heap.push _).push _)[w.heap.size + 1]? = _
    rw [Array.getElem?_push, if_pos (by simp)]
  rintro e w2 ⟨rfl, hw2⟩
  subst hw2
  go_wp2_with fail
  refine (amongT s _ _ false H2.out (0, 0) 9 ?_).mono ?_
  · show (((w.heap.push _).push _).push _)[w.heap.size + 2]? = _
    rw [Array.getElem?_push, if_pos (by simp)]
  rintro e w2 ⟨rfl, hw2⟩
  subst hw2
  go_wp2_with fail
  refine (amongF s _ _ false H3.out (0, 0) 9 ?_).mono ?_
  · show ((((w.heap.push _).push _).push _).push _)[w.heap.size + 3]? = _
    rw [Array.getElem?_push, if_pos (by simp)]
  rintro e w2 ⟨rfl, hw2⟩
  subst hw2
  cases b with
  | true =>
    have HP : Hid (plV s = ⟨3, r, false, ⟨#[]⟩⟩) := HPN.out r HNr.out
    go_wp2_with fail
    have hF : Hid (((((w.alloc (.cells #[.int .i64 3, .int .i64 r, .bool false, .string ⟨#[]⟩] 28)).alloc (.cells #[.string ⟨#[]⟩, .string ⟨#[126]⟩, .string ⟨#[110, 117, 108, 108]⟩, .string ⟨#[78, 117, 108, 108]⟩, .string ⟨#[78, 85, 76, 76]⟩] 9)).alloc (.cells #[.string ⟨#[116, 114, 117, 101]⟩, .string ⟨#[84, 114, 117, 101]⟩, .string ⟨#[84, 82, 85, 69]⟩] 9)).alloc (.cells #[.string ⟨#[102, 97, 108, 115, 101]⟩, .string ⟨#[70, 97, 108, 115, 101]⟩, .string ⟨#[70, 65, 76, 83, 69]⟩] 9)).heap[w.heap.size]? = some (.cells #[.int .i64 3, .int .i64 r, .bool false, .string ⟨#[]⟩] 28 (0, 0))) := by
      show ((((w.heap.push _).push _).push _).push _)[w.heap.size]? = _
      rw [Array.getElem?_push, if_neg (by simp <;> omega), Array.getElem?_push, if_neg (by simp <;> omega), Array.getElem?_push, if_neg (by simp <;> omega), Array.getElem?_push, if_pos rfl]
    have hB : Hid (Below w.heap.size w ((((w.alloc (.cells #[.int .i64 3, .int .i64 r, .bool false, .string ⟨#[]⟩] 28)).alloc (.cells #[.string ⟨#[]⟩, .string ⟨#[126]⟩, .string ⟨#[110, 117, 108, 108]⟩, .string ⟨#[78, 117, 108, 108]⟩, .string ⟨#[78, 85, 76, 76]⟩] 9)).alloc (.cells #[.string ⟨#[116, 114, 117, 101]⟩, .string ⟨#[84, 114, 117, 101]⟩, .string ⟨#[84, 82, 85, 69]⟩] 9)).alloc (.cells #[.string ⟨#[102, 97, 108, 115, 101]⟩, .string ⟨#[70, 97, 108, 115, 101]⟩, .string ⟨#[70, 65, 76, 83, 69]⟩] 9))) := ((((Below.refl _ w).alloc (Nat.le_refl _) _).alloc (by simp) _).alloc (by simp; omega) _).alloc (by simp; omega) _
    refine bodyPost_ret (results_cell_row rfl _ _ w.heap.size 28 _ (0, 0) _ rfl hF.out Tryd.underlying28 rfl (by kernel_rfl)) rfl ?_
    exact ⟨congrArg (fun v : Va => Ending.returned (.agg v.row)) HP.out.symm, hB.out⟩
  | false =>
    have HP : Hid (plV s = ⟨4, 0, false, s⟩) := HPT.out r HNr.out
    go_wp2_with fail
    have hF : Hid (((((w.alloc (.cells #[.int .i64 4, .int .i64 0, .bool false, .string s] 28)).alloc (.cells #[.string ⟨#[]⟩, .string ⟨#[126]⟩, .string ⟨#[110, 117, 108, 108]⟩, .string ⟨#[78, 117, 108, 108]⟩, .string ⟨#[78, 85, 76, 76]⟩] 9)).alloc (.cells #[.string ⟨#[116, 114, 117, 101]⟩, .string ⟨#[84, 114, 117, 101]⟩, .string ⟨#[84, 82, 85, 69]⟩] 9)).alloc (.cells #[.string ⟨#[102, 97, 108, 115, 101]⟩, .string ⟨#[70, 97, 108, 115, 101]⟩, .string ⟨#[70, 65, 76, 83, 69]⟩] 9)).heap[w.heap.size]? = some (.cells #[.int .i64 4, .int .i64 0, .bool false, .string s] 28 (0, 0))) := by
      show ((((w.heap.push _).push _).push _).push _)[w.heap.size]? = _
      rw [Array.getElem?_push, if_neg (by simp <;> omega), Array.getElem?_push, if_neg (by simp <;> omega), Array.getElem?_push, if_neg (by simp <;> omega), Array.getElem?_push, if_pos rfl]
    have hB : Hid (Below w.heap.size w ((((w.alloc (.cells #[.int .i64 4, .int .i64 0, .bool false, .string s] 28)).alloc (.cells #[.string ⟨#[]⟩, .string ⟨#[126]⟩, .string ⟨#[110, 117, 108, 108]⟩, .string ⟨#[78, 117, 108, 108]⟩, .string ⟨#[78, 85, 76, 76]⟩] 9)).alloc (.cells #[.string ⟨#[116, 114, 117, 101]⟩, .string ⟨#[84, 114, 117, 101]⟩, .string ⟨#[84, 82, 85, 69]⟩] 9)).alloc (.cells #[.string ⟨#[102, 97, 108, 115, 101]⟩, .string ⟨#[70, 97, 108, 115, 101]⟩, .string ⟨#[70, 65, 76, 83, 69]⟩] 9))) := ((((Below.refl _ w).alloc (Nat.le_refl _) _).alloc (by simp) _).alloc (by simp; omega) _).alloc (by simp; omega) _
    refine bodyPost_ret (results_cell_row rfl _ _ w.heap.size 28 _ (0, 0) _ rfl hF.out Tryd.underlying28 rfl (by kernel_rfl)) rfl ?_
    exact ⟨congrArg (fun v : Va => Ending.returned (.agg v.row)) HP.out.symm, hB.out⟩
end Go.Proofs.YtlfamgdmmenonaaDoor
