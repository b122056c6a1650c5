/- When a node of a graph is right by itself: plain, and spec.l15Node. -/
import Derived.Test.YtgaibajkegfpoaaDoorGeq
namespace Go.Proofs.YtgaibajkegfpoaaDoor
open Go.ChangeShapes Go.WideShapes Go.ChangeAt Go.RowKit Go.Deep
def headBad (n : Nd) : Bool := decide (120 < n.tag.size) || (decide (n.kind < 3) || (decide (5 < n.kind) || ((decide (n.kind = 4) && decide (n.kids.length % 2 = 1)) || ((decide (n.kind = 5) && decide (0 < n.kids.length)) || (decide (n.kind ≠ 5) && !n.text.toList.isEmpty)))))
def kidsIn (most : Nat) (l : List Int) : Bool := l.all fun k => decide (0 ≤ k ∧ k < (most : Int))
def nodeOkG (n : Nd) (most : Nat) : Bool := !headBad n && kidsIn most n.kids
theorem kids_no {most : Nat} {l : List Int} {k : Nat} {x : Int} (h : l[k]? = some x) (hx : ¬ (0 ≤ x ∧ x < (most : Int))) : kidsIn most l = false := by
  unfold kidsIn
  rw [Bool.eq_false_iff]
  intro ha
  rw [List.all_eq_true] at ha
  have := ha x (List.mem_of_getElem? h)
  exact hx (of_decide_eq_true this)
theorem kids_yes {most : Nat} {l : List Int} (h : ∀ (k : Nat) (x : Int), l[k]? = some x → 0 ≤ x ∧ x < (most : Int)) : kidsIn most l = true := by
  unfold kidsIn
  rw [List.all_eq_true]
  intro x hx
  obtain ⟨k, hk⟩ := List.mem_iff_getElem?.1 hx
  exact decide_eq_true (h k x hk)
set_option maxHeartbeats 8000000 in
set_option maxRecDepth 100000 in
theorem l15Node_any (n : Nd) (kv : Value) (most : Nat) (w : World) (hI : IlAt w kv n.kids) (hl : n.kids.length ≤ 1048576) (hz : n.tag.size ≤ 1048576) :
    Calls Tryd.prog 31 #[.agg #[.int .i64 n.kind, .string n.tag, .string n.text, kv], .int .i64 (most : Int)] w fun e w' => e = .returned (.bool (nodeOkG n most)) ∧ Below w.heap.size w w' := by
  obtain ⟨kind, tag, text, kids⟩ := n
  obtain ⟨a, c, rfl⟩ := hI.sl
  show Calls Tryd.prog 31 #[.agg #[.int .i64 kind, .string tag, .string text, .slice a kids.length c], .int .i64 (most : Int)] w fun e w' => e = .returned (.bool (nodeOkG ⟨kind, tag, text, kids⟩ most)) ∧ Below w.heap.size w w'
  have hl' : (kids.length : Int) ≤ 1048576 := by have : kids.length ≤ 1048576 := hl; omega
  have hz' : (tag.size : Int) ≤ 1048576 := by have : tag.size ≤ 1048576 := hz; omega
  have HI : Hid (IlAt w (.slice a kids.length c) kids) := hI
  have HAL : Hid (Below w.heap.size w (w.alloc (.cells #[.int .i64 kind, .string tag, .string text, .slice a kids.length c] 67))) := (Below.refl _ w).alloc (Nat.le_refl _) _
  clear hI hl hz
  by_cases h1 : 120 < tag.size
  · have h1' : (120 : Int) < (tag.size : Int) := by omega
    have HO : Hid (nodeOkG ⟨kind, tag, text, kids⟩ most = false) := by show _ = _; unfold nodeOkG; rw [show headBad ⟨kind, tag, text, kids⟩ = true from by unfold headBad; simp [h1]]; rfl
    clear h1
    go_enter Tryd.func31, Tryd.ntmps31
    go_wp2_with fail
    go_ret
    exact ⟨congrArg (fun b => Ending.returned (.bool b)) HO.out.symm, HAL.out⟩
  have h1' : ¬ (120 : Int) < (tag.size : Int) := by omega
  by_cases h2 : kind < 3
  · have HO : Hid (nodeOkG ⟨kind, tag, text, kids⟩ most = false) := by show _ = _; unfold nodeOkG; rw [show headBad ⟨kind, tag, text, kids⟩ = true from by unfold headBad; simp [h2]]; rfl
    clear h1
    go_enter Tryd.func31, Tryd.ntmps31
    go_wp2_with fail
    go_ret
    exact ⟨congrArg (fun b => Ending.returned (.bool b)) HO.out.symm, HAL.out⟩
  by_cases h3 : 5 < kind
  · have HO : Hid (nodeOkG ⟨kind, tag, text, kids⟩ most = false) := by show _ = _; unfold nodeOkG; rw [show headBad ⟨kind, tag, text, kids⟩ = true from by unfold headBad; simp [h3]]; rfl
    clear h1
    go_enter Tryd.func31, Tryd.ntmps31
    go_wp2_with fail
    go_ret
    exact ⟨congrArg (fun b => Ending.returned (.bool b)) HO.out.symm, HAL.out⟩
  rcases (show kind = 3 ∨ kind = 4 ∨ kind = 5 by omega) with rfl | rfl | rfl
  · cases ht : text.toList.isEmpty with
    | false =>
      have HO : Hid (nodeOkG ⟨3, tag, text, kids⟩ most = false) := by show _ = _; unfold nodeOkG; rw [show headBad ⟨3, tag, text, kids⟩ = true from by unfold headBad; simp [ht]]; rfl
      clear h1
      go_enter Tryd.func31, Tryd.ntmps31
      go_wp2_with fail
      go_ret
      exact ⟨congrArg (fun b => Ending.returned (.bool b)) HO.out.symm, HAL.out⟩
    | true =>
      have HH : Hid (headBad ⟨3, tag, text, kids⟩ = false) := by show _ = _; unfold headBad; simp [h1, ht]
      have HAK : Hid (nodeOkG ⟨3, tag, text, kids⟩ most = kidsIn most kids) := by show _ = _; unfold nodeOkG; rw [HH.out]; rfl
      clear h1
      go_enter Tryd.func31, Tryd.ntmps31
      go_wp2_with fail
      go_loop [57] (fun iv => ∃ k : Nat, iv = .int .i64 k ∧ k ≤ kids.length ∧ Hid (∀ (j : Nat) (x : Int), j < k → kids[j]? = some x → 0 ≤ x ∧ x < (most : Int))) (fun iv => kids.length - (intOf iv).toNat)
      case atStart => exact ⟨0, rfl, Nat.zero_le _, fun j x h _ => by omega⟩
      case round =>
        obtain ⟨k, rfl, hk, HR⟩ := hrel
        by_cases hlt : k < kids.length
        · have hltI : (k : Int) < (kids.length : Int) := by omega
          obtain ⟨x, hx⟩ : ∃ x, kids[k]? = some x := ⟨_, List.getElem?_eq_getElem hlt⟩
          obtain ⟨b, o, rfl, hbl, d⟩ := HI.out.at hx
          rw [← HAL.out.cell hbl] at d
          by_cases x0 : x < 0
          · have HO : Hid (nodeOkG ⟨3, tag, text, kids⟩ most = false) := by show _ = _; rw [HAK.out]; exact kids_no hx (by omega)
            clear hx HR hbl
            go_wp2_with fail
            go_ret
            exact ⟨congrArg (fun b => Ending.returned (.bool b)) HO.out.symm, HAL.out⟩
          by_cases x1 : (most : Int) ≤ x
          · have HO : Hid (nodeOkG ⟨3, tag, text, kids⟩ most = false) := by show _ = _; rw [HAK.out]; exact kids_no hx (by omega)
            clear hx HR hbl
            go_wp2_with fail
            go_ret
            exact ⟨congrArg (fun b => Ending.returned (.bool b)) HO.out.symm, HAL.out⟩
          have HR2 : Hid (∀ (j : Nat) (x : Int), j < k + 1 → kids[j]? = some x → 0 ≤ x ∧ x < (most : Int)) := fun j y hj hy => by
            by_cases e : j = k
            · subst e
              rw [hx] at hy
              obtain rfl : x = y := by simpa using hy
              omega
            · exact HR.out j y (by omega) hy
          clear hx HR hbl
          go_wp2_with fail
          go_round
          case rel => exact ⟨k + 1, by go_num, hlt, HR2⟩
          case measure => simp [intOf]; omega
        · have hge : ¬ (k : Int) < (kids.length : Int) := by omega
          have HO : Hid (nodeOkG ⟨3, tag, text, kids⟩ most = true) := by
            show _ = _
            rw [HAK.out]
            exact kids_yes (fun j x hx => HR.out j x (by have := (List.getElem?_eq_some_iff.1 hx).1; omega) hx)
          clear HR
          go_wp2_with fail
          go_ret
          exact ⟨congrArg (fun b => Ending.returned (.bool b)) HO.out.symm, HAL.out⟩
  · by_cases h4 : kids.length % 2 = 1
    · have q1 : ((kids.length : Int).tmod 2 == 1) = true := by rw [beq_iff_eq, Int.tmod_eq_emod_of_nonneg (by omega)]; omega
      have q2 : ((kids.length : Int) % 2 == 1) = true := by rw [beq_iff_eq]; omega
      have HO : Hid (nodeOkG ⟨4, tag, text, kids⟩ most = false) := by show _ = _; unfold nodeOkG; rw [show headBad ⟨4, tag, text, kids⟩ = true from by unfold headBad; simp [h4]]; rfl
      clear h1 h4
      go_enter Tryd.func31, Tryd.ntmps31
      go_wp2_with fail
      go_ret
      exact ⟨congrArg (fun b => Ending.returned (.bool b)) HO.out.symm, HAL.out⟩
    have q1 : ((kids.length : Int).tmod 2 == 1) = false := by rw [beq_eq_false_iff_ne, ne_eq, Int.tmod_eq_emod_of_nonneg (by omega)]; omega
    have q2 : ((kids.length : Int) % 2 == 1) = false := by rw [beq_eq_false_iff_ne]; omega
    cases ht : text.toList.isEmpty with
    | false =>
      have HO : Hid (nodeOkG ⟨4, tag, text, kids⟩ most = false) := by show _ = _; unfold nodeOkG; rw [show headBad ⟨4, tag, text, kids⟩ = true from by unfold headBad; simp [ht]]; rfl
      clear h1 h4
      go_enter Tryd.func31, Tryd.ntmps31
      go_wp2_with fail
      go_ret
      exact ⟨congrArg (fun b => Ending.returned (.bool b)) HO.out.symm, HAL.out⟩
    | true =>
      have HH : Hid (headBad ⟨4, tag, text, kids⟩ = false) := by show _ = _; unfold headBad; simp [h1, ht, h4]
      have HAK : Hid (nodeOkG ⟨4, tag, text, kids⟩ most = kidsIn most kids) := by show _ = _; unfold nodeOkG; rw [HH.out]; rfl
      clear h1 h4
      go_enter Tryd.func31, Tryd.ntmps31
      go_wp2_with fail
      go_loop [57] (fun iv => ∃ k : Nat, iv = .int .i64 k ∧ k ≤ kids.length ∧ Hid (∀ (j : Nat) (x : Int), j < k → kids[j]? = some x → 0 ≤ x ∧ x < (most : Int))) (fun iv => kids.length - (intOf iv).toNat)
      case atStart => exact ⟨0, rfl, Nat.zero_le _, fun j x h _ => by omega⟩
      case round =>
        obtain ⟨k, rfl, hk, HR⟩ := hrel
        by_cases hlt : k < kids.length
        · have hltI : (k : Int) < (kids.length : Int) := by omega
          obtain ⟨x, hx⟩ : ∃ x, kids[k]? = some x := ⟨_, List.getElem?_eq_getElem hlt⟩
          obtain ⟨b, o, rfl, hbl, d⟩ := HI.out.at hx
          rw [← HAL.out.cell hbl] at d
          by_cases x0 : x < 0
          · have HO : Hid (nodeOkG ⟨4, tag, text, kids⟩ most = false) := by show _ = _; rw [HAK.out]; exact kids_no hx (by omega)
            clear hx HR hbl
            go_wp2_with fail
            go_ret
            exact ⟨congrArg (fun b => Ending.returned (.bool b)) HO.out.symm, HAL.out⟩
          by_cases x1 : (most : Int) ≤ x
          · have HO : Hid (nodeOkG ⟨4, tag, text, kids⟩ most = false) := by show _ = _; rw [HAK.out]; exact kids_no hx (by omega)
            clear hx HR hbl
            go_wp2_with fail
            go_ret
            exact ⟨congrArg (fun b => Ending.returned (.bool b)) HO.out.symm, HAL.out⟩
          have HR2 : Hid (∀ (j : Nat) (x : Int), j < k + 1 → kids[j]? = some x → 0 ≤ x ∧ x < (most : Int)) := fun j y hj hy => by
            by_cases e : j = k
            · subst e
              rw [hx] at hy
              obtain rfl : x = y := by simpa using hy
              omega
            · exact HR.out j y (by omega) hy
          clear hx HR hbl
          go_wp2_with fail
          go_round
          case rel => exact ⟨k + 1, by go_num, hlt, HR2⟩
          case measure => simp [intOf]; omega
        · have hge : ¬ (k : Int) < (kids.length : Int) := by omega
          have HO : Hid (nodeOkG ⟨4, tag, text, kids⟩ most = true) := by
            show _ = _
            rw [HAK.out]
            exact kids_yes (fun j x hx => HR.out j x (by have := (List.getElem?_eq_some_iff.1 hx).1; omega) hx)
          clear HR
          go_wp2_with fail
          go_ret
          exact ⟨congrArg (fun b => Ending.returned (.bool b)) HO.out.symm, HAL.out⟩
  · by_cases h5 : 0 < kids.length
    · have HO : Hid (nodeOkG ⟨5, tag, text, kids⟩ most = false) := by show _ = _; unfold nodeOkG; rw [show headBad ⟨5, tag, text, kids⟩ = true from by unfold headBad; simp [h5]]; rfl
      generalize kids.length = m at *
      have q1 : (0 : Int) < (m : Int) := by omega
      clear h1 h5
      go_enter Tryd.func31, Tryd.ntmps31
      go_wp2_with fail
      go_ret
      exact ⟨congrArg (fun b => Ending.returned (.bool b)) HO.out.symm, HAL.out⟩
    obtain rfl : kids = [] := List.eq_nil_of_length_eq_zero (by omega)
    have HO : Hid (nodeOkG ⟨5, tag, text, []⟩ most = true) := by show _ = _; unfold nodeOkG; rw [show headBad ⟨5, tag, text, []⟩ = false from by unfold headBad; simp [h1]]; rfl
    clear h1 h5
    go_enter Tryd.func31, Tryd.ntmps31
    go_wp2_with fail
    go_loop [57] (fun iv => iv = .int .i64 0) (fun _ => 0)
    case atStart => rfl
    case round =>
      obtain rfl := hrel
      go_wp2_with fail
      go_ret
      exact ⟨congrArg (fun b => Ending.returned (.bool b)) HO.out.symm, HAL.out⟩
end Go.Proofs.YtgaibajkegfpoaaDoor
