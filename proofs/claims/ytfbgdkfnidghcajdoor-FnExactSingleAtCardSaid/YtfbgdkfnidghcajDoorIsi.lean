/- impl.SingleAt. -/
import Derived.Test.YtfbgdkfnidghcajDoorQat
import Derived.Test.YtfbgdkfnidghcajDoorLqu
namespace Go.Proofs.YtfbgdkfnidghcajDoor
open Go.ChangeShapes Go.WideShapes Go.ChangeAt Go.RowKit Go.Deep
theorem implSi : ImplSi := by
  intro s p w T E C hs hw hr
  have hcl := cl_le s.size p
  have cQ := quoted_any 12 (enters_of Tryd.func12 (by kernel_rfl) rfl) (fun _ => True) (Gs s) (fun fm => fm = 0) s ⟨#[39]⟩ p w (singleStep_any s) rfl (fun _ _ => trivial) hs T E C (by
      rw [← hr]
      unfold sgAt
      by_cases h : cl s.size p < s.size ∧ bt s (cl s.size p) = 39
      · have h2 : pre (s.extract (cl s.size p) s.size) ⟨#[39]⟩ = true := pre1_yes (c := 39) h.1 (by decide) h.2
        rw [if_pos h2, if_neg (by omega)]
        rfl
      · have h2 : pre (s.extract (cl s.size p) s.size) ⟨#[39]⟩ = false := pre1_no (c := 39) hcl (by decide) h
        rw [h2, if_neg (by decide), if_pos]
        by_cases h3 : cl s.size p < s.size
        · exact .inr (fun e => h ⟨h3, e⟩)
        · exact .inl (by omega)) (fun h => by
      have h2 := pre1 s (cl s.size p) 39 hcl (by decide)
      by_cases h3 : cl s.size p < s.size
      · exact h3
      · rw [decide_eq_false h3, Bool.false_and] at h2
        exact absurd (h.symm.trans h2) (by decide))
  clear hr hcl hs hw
  go_enter Tryd.func5, Tryd.ntmps5
  go_wp2_with fail
  refine cQ.mono ?_
  rintro e w1 ⟨rfl, hb1⟩
  clear cQ
  go_wp2_with fail
  go_ret3
  exact ⟨rfl, hb1⟩
end Go.Proofs.YtfbgdkfnidghcajDoor
