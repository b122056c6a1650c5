/- The program asks each node of a graph, and its places. -/
import Derived.Test.YtgaibajkegfpoaaGip
namespace Go.Proofs.Ytgaibajkegfpoaa
open Go.ChangeShapes Go.WideShapes Go.ChangeAt Go.RowKit Go.Deep
theorem head_is (kind : Int) (tag text : ByteArray) (kids : List Int) : headBad ⟨kind, tag, text, kids⟩ = !(decide (tag.size ≤ 120) && ((decide (kind = 3) && text.toList.isEmpty) || ((decide (kind = 4) && (text.toList.isEmpty && decide (kids.length % 2 = 0))) || (decide (kind = 5) && decide (kids.length = 0))))) := by
  unfold headBad
  by_cases h1 : 120 < tag.size
  · simp [h1, show ¬ tag.size ≤ 120 by omega]
  by_cases h2 : kind < 3
  · simp [h2, show kind ≠ 3 by omega, show kind ≠ 4 by omega, show kind ≠ 5 by omega]
  by_cases h3 : 5 < kind
  · simp [h3, show kind ≠ 3 by omega, show kind ≠ 4 by omega, show kind ≠ 5 by omega]
  rcases (show kind = 3 ∨ kind = 4 ∨ kind = 5 by omega) with rfl | rfl | rfl
  · simp [h1, show tag.size ≤ 120 by omega]
  · by_cases h4 : kids.length % 2 = 1
    · simp [h1, h4, show tag.size ≤ 120 by omega]
    · simp [h1, show tag.size ≤ 120 by omega, show kids.length % 2 = 0 by omega]
  · by_cases h5 : kids.length = 0
    · simp [h1, h5, show tag.size ≤ 120 by omega]
    · simp [h1, h5, show tag.size ≤ 120 by omega, show 0 < kids.length by omega]
set_option maxHeartbeats 8000000 in
set_option maxRecDepth 100000 in
theorem nodeOk_any (n : Nd) (kv : Value) (w : World) (hI : IlAt w kv n.kids) (hl : n.kids.length ≤ 1048576) (hz : n.tag.size ≤ 1048576) (r : Bool) (hr : (!headBad n) = r) :
    Calls Try.prog 62 #[.agg #[.int .i64 n.kind, .string n.tag, .string n.text, kv]] w fun e w' => e = .returned (.bool r) ∧ Below w.heap.size w w' := by
  obtain ⟨kind, tag, text, kids⟩ := n
  obtain ⟨a, c, rfl⟩ := hI.sl
  show Calls Try.prog 62 #[.agg #[.int .i64 kind, .string tag, .string text, .slice a kids.length c]] w fun e w' => e = .returned (.bool r) ∧ Below w.heap.size w w'
  have hl' : (kids.length : Int) ≤ 1048576 := by have : kids.length ≤ 1048576 := hl; omega
  have hz' : (tag.size : Int) ≤ 1048576 := by have : tag.size ≤ 1048576 := hz; omega
  have HAL := hidG (al_belowG w (.cells #[.int .i64 kind, .string tag, .string text, .slice a kids.length c] 50))
  rw [head_is, Bool.not_not] at hr
  clear hI hl hz
  by_cases h1 : 120 < tag.size
  · have h1' : (120 : Int) < (tag.size : Int) := by omega
    obtain rfl : false = r := by rw [← hr]; simp [show ¬ tag.size ≤ 120 by omega]
    clear h1 hr
    go_enter Try.func62, Try.ntmps62
    go_wp2_with fail
    go_ret
    exact ⟨rfl, HAL.out⟩
  have h1' : ¬ (120 : Int) < (tag.size : Int) := by omega
  have h1n : tag.size ≤ 120 := by omega
  by_cases h3 : kind = 3
  · subst h3
    cases ht : text.toList.isEmpty with
    | false =>
      obtain rfl : false = r := by rw [← hr]; simp [ht]
      clear hr h1 h1n
      go_enter Try.func62, Try.ntmps62
      go_wp2_with fail
      go_ret
      exact ⟨by simp, HAL.out⟩
    | true =>
      obtain rfl : true = r := by rw [← hr]; simp [ht, h1n]
      clear hr h1 h1n
      go_enter Try.func62, Try.ntmps62
      go_wp2_with fail
      go_ret
      exact ⟨by simp, HAL.out⟩
  have h3' : (kind == 3) = false := by rw [beq_eq_false_iff_ne]; exact h3
  by_cases h4 : kind = 4
  · subst h4
    cases ht : text.toList.isEmpty with
    | false =>
      obtain rfl : false = r := by rw [← hr]; simp [ht]
      clear hr h1 h1n h3
      go_enter Try.func62, Try.ntmps62
      go_wp2_with fail
      go_ret
      exact ⟨rfl, HAL.out⟩
    | true =>
      by_cases h5 : kids.length % 2 = 0
      · obtain rfl : true = r := by rw [← hr]; simp [ht, h1n, h5]
        have q1 : ((kids.length : Int).tmod 2 == 0) = true := by rw [beq_iff_eq, Int.tmod_eq_emod_of_nonneg (by omega)]; omega
        have q2 : ((kids.length : Int) % 2 == 0) = true := by rw [beq_iff_eq]; omega
        clear hr h1 h1n h3 h5
        go_enter Try.func62, Try.ntmps62
        go_wp2_with fail
        go_ret
        exact ⟨by simp, HAL.out⟩
      · obtain rfl : false = r := by rw [← hr]; simp [ht, h5]
        have q1 : ((kids.length : Int).tmod 2 == 0) = false := by rw [beq_eq_false_iff_ne, ne_eq, Int.tmod_eq_emod_of_nonneg (by omega)]; omega
        have q2 : ((kids.length : Int) % 2 == 0) = false := by rw [beq_eq_false_iff_ne]; omega
        clear hr h1 h1n h3 h5
        go_enter Try.func62, Try.ntmps62
        go_wp2_with fail
        go_ret
        exact ⟨by simp, HAL.out⟩
  have h4' : (kind == 4) = false := by rw [beq_eq_false_iff_ne]; exact h4
  by_cases h5 : kind = 5
  · subst h5
    by_cases h6 : kids.length = 0
    · obtain rfl : true = r := by rw [← hr]; simp [h6, h1n]
      have q1 : ((kids.length : Int) == 0) = true := by rw [beq_iff_eq]; omega
      clear hr h1 h1n h3 h4 h6
      go_enter Try.func62, Try.ntmps62
      go_wp2_with fail
      go_ret
      exact ⟨by simp, HAL.out⟩
    · obtain rfl : false = r := by rw [← hr]; simp [h6]
      have q1 : ((kids.length : Int) == 0) = false := by rw [beq_eq_false_iff_ne]; omega
      clear hr h1 h1n h3 h4 h6
      go_enter Try.func62, Try.ntmps62
      go_wp2_with fail
      go_ret
      exact ⟨by simp, HAL.out⟩
  have h5' : (kind == 5) = false := by rw [beq_eq_false_iff_ne]; exact h5
  obtain rfl : false = r := by rw [← hr]; simp [h3, h4, h5]
  clear hr h1 h1n h3 h4 h5
  go_enter Try.func62, Try.ntmps62
  go_wp2_with fail
  go_ret
  exact ⟨rfl, HAL.out⟩
end Go.Proofs.Ytgaibajkegfpoaa
