/- The contract of spec.FoldBlock. -/
import Derived.Test.YtfbgdkfnidghcakGreatDoorSff
namespace Go.Proofs.YtfbgdkfnidghcakGreatDoor
open Go.ChangeShapes Go.WideShapes Go.ChangeAt Go.RowKit
theorem ret_bool' {a b : Bool} (h : a = b) : Ending.returned (.bool a) = .returned (.bool b) := by rw [h]
theorem white0_ (s : ByteArray) (w : World) (b : Bool) (hb : farS s = b) :
    Calls Tryz.prog 16 #[.string s, .int .i64 0] w fun e w' => e = .returned (.bool b) ∧ w' = w := by
  subst hb
  by_cases hlt : 0 < s.size
  · have hg : (s.data[0]!).toNat = (s[0]'hlt).toNat := by
      have : 0 < s.data.size := hlt
      rw [getElem!_pos s.data 0 this]; rfl
    have HP : Hid (farS s = (((s[0]'hlt).toNat : Int) == 32 || ((s[0]'hlt).toNat : Int) == 9)) := by
      show farS s = (((s[0]'hlt).toNat : Int) == 32 || ((s[0]'hlt).toNat : Int) == 9)
      unfold farS
      rw [hg, decide_eq_true hlt, Bool.true_and, Bool.eq_iff_iff]
      simp; omega
    rw [HP.out]
    clear hg HP
    have hlt' : (0 : Int) < (s.size : Int) := by omega
    by_cases h1 : (s[0]'hlt).toNat = 32
    · go_enter Tryz.func16, Tryz.ntmps16
      go_wp2_with fail
      go_ret
      refine ⟨ret_bool' ?_, rfl⟩
      simp [h1]
    · have h1' : (((s[0]'hlt).toNat : Int) == 32) = false := by rw [beq_eq_false_iff_ne]; omega
      clear h1
      go_enter Tryz.func16, Tryz.ntmps16
      go_wp2_with fail
      go_ret
      refine ⟨ret_bool' ?_, rfl⟩
      simp [h1']
  · have HP : Hid (farS s = false) := by
      show farS s = false
      unfold farS
      rw [decide_eq_false hlt]; rfl
    rw [HP.out]
    have hlt' : ¬ (0 : Int) < (s.size : Int) := by omega
    go_enter Tryz.func16, Tryz.ntmps16
    go_wp2_with fail
    go_ret
    exact ⟨rfl, rfl⟩
theorem FIN (T : ByteArray) : Hid (∀ (o : ByteArray), o ++ brks 0 = T → o = T) := fun o h => by rw [← h]; exact (app_empty o).symm
theorem STEP (T : ByteArray) : Hid (∀ (o : ByteArray) (m : Nat), o ++ brks (m + 1) = T → (o ++ ⟨#[10]⟩) ++ brks m = T) := fun o m h => by rw [← h, brks, app_assoc]; rfl
theorem drop_ss {ss : List ByteArray} {k : Nat} {p : ByteArray} (h : ss[k]? = some p) : ss.drop k = p :: ss.drop (k + 1) := by
  have hl : k < ss.length := by
    rcases Nat.lt_or_ge k ss.length with h' | h'
    · exact h'
    · rw [List.getElem?_eq_none h'] at h; cases h
  rw [List.drop_eq_getElem_cons hl]
  congr 1
  rw [List.getElem?_eq_getElem hl] at h
  simpa using h
/-- The number of the last line that isn't empty, or -1. -/
def laI : Option (Nat × ByteArray) → Int
  | none => -1
  | some p => (p.1 : Int)
theorem fb_skip {x : ByteArray} {t : List ByteArray} {out : ByteArray} {n : Nat} {l : Option ByteArray} (h : x = ByteArray.empty) : fbGo (x :: t) out n l = fbGo t out (n + 1) l := by
  cases l <;> rw [fbGo, if_pos h]
theorem fb_none {x : ByteArray} {t : List ByteArray} {out : ByteArray} {n : Nat} (h : x ≠ ByteArray.empty) : fbGo (x :: t) out n none = fbGo t (out ++ brks n ++ x) 0 (some x) := by
  rw [fbGo, if_neg h]
theorem fb_far {x y : ByteArray} {t : List ByteArray} {out : ByteArray} {n : Nat} (h : x ≠ ByteArray.empty) (hf : (farS x || farS y) = true) : fbGo (x :: t) out n (some y) = fbGo t (out ++ brks (n + 1) ++ x) 0 (some x) := by
  rw [fbGo, if_neg h]
  show (if (farS x || farS y) = true then _ else _) = _
  rw [if_pos hf]
theorem fb_near {x y : ByteArray} {t : List ByteArray} {out : ByteArray} {n : Nat} (h : x ≠ ByteArray.empty) (hf : (farS x || farS y) = false) : fbGo (x :: t) out n (some y) = fbGo t ((if n = 0 then out ++ b32 else out) ++ brks n ++ x) 0 (some x) := by
  rw [fbGo, if_neg h]
  show (if (farS x || farS y) = true then _ else _) = _
  rw [if_neg (by rw [hf]; simp)]
end Go.Proofs.YtfbgdkfnidghcakGreatDoor
