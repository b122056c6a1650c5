/- impl.FoldBlock answers foldBlock. -/
import Derived.Test.YtfpkcfedkjjjbacIfj
import Derived.Test.YtfpkcfedkjjjbacLfo
namespace Go.Proofs.Ytfpkcfedkjjjbac
open Go.ChangeShapes Go.WideShapes Go.ChangeAt Go.RowKit
/-- The last line that isn't empty, as a text. -/
def laS : Option ByteArray → ByteArray
  | none => ByteArray.empty
  | some y => y
def okS (l : Option ByteArray) : Prop := ∀ y, l = some y → y ≠ ByteArray.empty
theorem fb_joint {x : ByteArray} {t : List ByteArray} {out : ByteArray} {n : Nat} {l : Option ByteArray} (hx : x ≠ ByteArray.empty) (hl : okS l) : fbGo (x :: t) out n l = fbGo t (out ++ lj (laS l) x n ++ x) 0 (some x) := by
  cases l with
  | none =>
    have e : lj (laS none) x n = brks n := by unfold lj; rw [if_pos (show laS none = ByteArray.empty from rfl)]
    rw [fb_none hx, e]
  | some y =>
    have hy : y ≠ ByteArray.empty := hl y rfl
    have e : lj (laS (some y)) x n = if (farS x || farS y) = true then brks (n + 1) else if n = 0 then b32 else brks n := by
      unfold lj
      rw [if_neg (show laS (some y) ≠ ByteArray.empty from hy)]
      rfl
    cases hf : farS x || farS y with
    | true =>
      rw [hf, if_pos rfl] at e
      rw [fb_far hx hf, e]
    | false =>
      rw [hf, if_neg (fun h => by cases h)] at e
      rw [fb_near hx hf]
      by_cases hn : n = 0
      · subst hn
        rw [if_pos rfl] at e
        rw [e, if_pos rfl]
        show fbGo t (out ++ b32 ++ ByteArray.empty ++ x) 0 _ = _
        rw [app_empty]
      · rw [if_neg hn] at e
        rw [e, if_neg hn]
set_option maxHeartbeats 8000000 in
theorem implFb : ImplFb := by
  intro w v ss hV hl
  obtain ⟨a, c, rfl⟩ := hV.sl
  have HV : Hid (SlS w (.slice a ss.length c) ss) := hV
  have hL : ss.length ≤ 8388608 := by omega
  have HT : Hid (totS ss ≤ 8388608) := by show totS ss ≤ 8388608; omega
  obtain ⟨R, hR⟩ : ∃ R, foldBlock ss = R := ⟨_, rfl⟩
  have HR : Hid (fbGo (ss.drop 0) ByteArray.empty 0 none = R) := by
    show fbGo (ss.drop 0) ByteArray.empty 0 none = R
    rw [List.drop_zero]; exact hR
  rw [hR]
  have HBF : Hid (Bd w.heap.size w.heap.size ByteArray.empty (w.alloc (.cells #[.pointer none, .slice none 0 0] 65))) := Bd.fresh w
  have HB1 : Hid (Below w.heap.size w (w.alloc (.cells #[.pointer none, .slice none 0 0] 65))) := (Below.refl _ w).alloc (Nat.le_refl _) _
  clear hV hl hR
  go_enter Try.func28, Try.ntmps28
  go_wp2_with fail
  go_loopw [4, 5, 10] (fun lv nv iv wr => ∃ (k n : Nat) (l : Option ByteArray) (y out : ByteArray), k ≤ ss.length ∧ iv = .int .i64 k ∧ nv = .int .i64 n ∧ lv = .string y ∧ Hid (laS l = y) ∧ Hid (okS l) ∧ Hid (Bd w.heap.size w.heap.size out wr) ∧ Hid (fbGo (ss.drop k) out n l = R) ∧ Hid (out.size + n ≤ totS (ss.take k) + 2 * k) ∧ Hid (Below w.heap.size w wr)) (fun _ _ iv _ => ss.length - (intOf iv).toNat)
  case atStart =>
    refine ⟨0, 0, none, ByteArray.empty, ByteArray.empty, Nat.zero_le _, by go_num, by go_num, rfl, rfl, ?_, HBF, HR, ?_, HB1⟩
    · exact fun y h => by cases h
    · show ByteArray.empty.size + 0 ≤ _; exact Nat.zero_le _
  case round =>
    obtain ⟨k, n, l, y, out, hk, rfl, rfl, rfl, HLY, HOK, HD, HG, HS, HB⟩ := hrel
    by_cases hlt : k < ss.length
    · obtain ⟨x, hx⟩ : ∃ h, ss[k]? = some h := ⟨_, List.getElem?_eq_getElem hlt⟩
      obtain ⟨b, off, rfl, c1⟩ := HV.out.cells HB.out hx
      have hlt' : (k : Int) < (ss.length : Int) := by omega
      have HTT : Hid (totS (ss.take (k + 1)) = totS (ss.take k) + x.size) := totS_take hx
      have hxs : x.size ≤ 8388608 := by have := totS_mem (List.mem_of_getElem? hx); have := HT.out; omega
      have hos : out.size + n ≤ 33554432 := by have h1 := HS.out; have h2 := totS_le ss k; have h3 := HT.out; omega
      have HDr : Hid (ss.drop k = x :: ss.drop (k + 1)) := drop_ss hx
      clear hx
      by_cases hx0 : x = ByteArray.empty
      · subst hx0
        have hE := e_list
        have HG2 : Hid (fbGo (ss.drop (k + 1)) out (n + 1) l = R) := by
          show fbGo (ss.drop (k + 1)) out (n + 1) l = R
          rw [← HG.out, HDr.out, fb_skip rfl]
        have HS2 : Hid (out.size + (n + 1) ≤ totS (ss.take (k + 1)) + 2 * (k + 1)) := by
          have := HS.out; have := HTT.out
          show out.size + (n + 1) ≤ _
          omega
        clear HG HS HTT HDr
        go_wp2_with fail
        go_roundw
        case rel => exact ⟨k + 1, n + 1, l, y, out, hlt, by go_num, by go_num, rfl, HLY, HOK, HD, HG2, HS2, HB⟩
        case measure => simp [intOf]; omega
      · have HG2 : Hid (fbGo (ss.drop (k + 1)) (out ++ lj y x n ++ x) 0 (some x) = R) := by
          show fbGo (ss.drop (k + 1)) (out ++ lj y x n ++ x) 0 (some x) = R
          rw [← HG.out, HDr.out, fb_joint hx0 HOK.out, HLY.out]
        have HOK2 : Hid (okS (some x)) := fun z h => by injection h with h; rw [← h]; exact hx0
        have hE := ne_list hx0
        have hjs := lj_size y x n
        obtain ⟨J, hJ⟩ : ∃ J, lj y x n = J := ⟨_, rfl⟩
        have HJ : Hid (lj y x n = J) := hJ
        rw [hJ] at HG2 hjs
        have HS2 : Hid ((out ++ J ++ x).size + 0 ≤ totS (ss.take (k + 1)) + 2 * (k + 1)) := by
          have := HS.out; have := HTT.out
          show (out ++ J ++ x).size + 0 ≤ _
          rw [ByteArray.size_append, ByteArray.size_append]
          omega
        have HJS : Hid (out.size + J.size ≤ 33554433) := by show out.size + J.size ≤ 33554433; omega
        have hn : n ≤ 33554432 := by omega
        clear hJ hjs hx0 HG HS HTT HDr HOK HLY
        go_wp2_with fail
        refine (lineJoint_any y x n _ hn J HJ.out).mono ?_
        rintro e w2 ⟨rfl, hb2⟩
        have HD2 : Hid (Bd w.heap.size w.heap.size out w2) := HD.out.stays hb2
        have HB2 : Hid (Below w.heap.size w w2) := HB.out.trans (hb2.mono HB.out.size)
        clear hb2 HD HB c1
        go_wp2_with fail
        refine (write_any w.heap.size w.heap.size out J _ HD2.out (by have := HJS.out; omega) HB2.out.size).mono ?_
        rintro e w3 ⟨rfl, hD3, hb3, hk3⟩
        have HD3 : Hid (Bd w.heap.size w.heap.size (out ++ J) w3) := hD3
        have HB3 : Hid (Below w.heap.size w w3) := HB2.out.trans hb3
        clear hD3 hb3 hk3 HD2 HB2
        go_wp2_with fail
        refine (write_any w.heap.size w.heap.size (out ++ J) x _ HD3.out (by rw [ByteArray.size_append]; have := HJS.out; omega) HB3.out.size).mono ?_
        rintro e w4 ⟨rfl, hD4, hb4, hk4⟩
        have HB4 : Hid (Below w.heap.size w w4) := HB3.out.trans hb4
        have HD4 : Hid (Bd w.heap.size w.heap.size (out ++ J ++ x) w4) := hD4
        clear hD4 hb4 hk4 HD3 HB3
        go_wp2_with fail
        go_roundw
        case rel => exact ⟨k + 1, 0, some x, x, _, hlt, by go_num, by go_num, rfl, rfl, HOK2, HD4, HG2, HS2, HB4⟩
        case measure => simp [intOf]; omega
    · have hlt' : ¬ (k : Int) < (ss.length : Int) := by omega
      have HO : Hid (out = R) := by
        show out = R
        rw [← HG.out, show ss.drop k = [] from List.drop_eq_nil_of_le (by omega)]
        rfl
      clear HG HS
      go_wp2_with fail
      refine (string_any w.heap.size w.heap.size out _ HD.out HB.out.size).mono ?_
      rintro e w2 ⟨rfl, hb2⟩
      go_wp2_with fail
      go_ret
      exact ⟨ret_str HO.out, HB.out.trans hb2⟩
end Go.Proofs.Ytfpkcfedkjjjbac
