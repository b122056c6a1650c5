/- What Nested answers, as a plain function. -/
import Derived.Test.YtmbbmibkjnlkkaaEvl
namespace Go.Proofs.Ytmbbmibkjnlkkaa
/-- One node more in what is open: a list (-1) stays as it is. -/
def stI (x : Int) : Int := if 0 ≤ x then x + 1 else x
def pushK (k : Int) (st : List Int) : List Int := if k = 3 then (-1) :: st else if k = 4 then 0 :: st else st
def nst : Bool → Int → List Int → List Ev → Bool
  | _, _, _, [] => false
  | first, doc, st, e :: t =>
    if evOk e = false then false
    else if (first != (e.kind == 1)) = true then false
    else if e.kind = 10 then t.isEmpty
    else if e.kind = 2 then (if doc = 0 then nst false 1 st t else false)
    else if 3 ≤ e.kind ∧ e.kind ≤ 6 then
      (if st = [] then (if doc = 1 then nst false 2 (pushK e.kind []) t else false) else nst false doc (pushK e.kind (stI (st.headD 0) :: st.tail)) t)
    else if e.kind = 7 then
      (if st = [] then false else if 0 < st.headD 0 ∧ st.headD 0 % 2 = 1 then false else nst false doc st.tail t)
    else if e.kind = 8 then (if doc = 2 ∧ st = [] then nst false 0 [] t else false)
    else if e.kind = 9 then t.isEmpty && decide (doc = 0)
    else nst false doc st t
def nested (es : List Ev) : Bool := nst true 0 [] es
section
variable {first : Bool} {doc : Int} {st : List Int} {e : Ev} {t : List Ev} {b : Bool}
theorem nst_bad (h : nst first doc st (e :: t) = b) (h1 : evOk e = false) : false = b := by rw [nst, if_pos h1] at h; exact h
theorem nst_first (h : nst first doc st (e :: t) = b) (h1 : evOk e = true) (h2 : (first != (e.kind == 1)) = true) : false = b := by rw [nst, if_neg (show ¬ evOk e = false by rw [h1]; simp), if_pos h2] at h; exact h
theorem nst_in (h : nst first doc st (e :: t) = b) (h1 : evOk e = true) (h2 : (first != (e.kind == 1)) = false) : (if e.kind = 10 then t.isEmpty
    else if e.kind = 2 then (if doc = 0 then nst false 1 st t else false)
    else if 3 ≤ e.kind ∧ e.kind ≤ 6 then
      (if st = [] then (if doc = 1 then nst false 2 (pushK e.kind []) t else false) else nst false doc (pushK e.kind (stI (st.headD 0) :: st.tail)) t)
    else if e.kind = 7 then
      (if st = [] then false else if 0 < st.headD 0 ∧ st.headD 0 % 2 = 1 then false else nst false doc st.tail t)
    else if e.kind = 8 then (if doc = 2 ∧ st = [] then nst false 0 [] t else false)
    else if e.kind = 9 then t.isEmpty && decide (doc = 0)
    else nst false doc st t) = b := by
  rw [nst, if_neg (show ¬ evOk e = false by rw [h1]; simp), if_neg (show ¬ (first != (e.kind == 1)) = true by rw [h2]; simp)] at h
  exact h
end
theorem evOk_kind {e : Ev} (h : evOk e = true) : 1 ≤ e.kind ∧ e.kind ≤ 10 := by
  unfold evOk at h
  split at h
  · cases h
  · rename_i h1
    exact ⟨by omega, by omega⟩
end Go.Proofs.Ytmbbmibkjnlkkaa
