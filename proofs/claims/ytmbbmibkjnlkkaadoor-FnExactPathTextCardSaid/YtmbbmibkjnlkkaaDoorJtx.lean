/- impl's steps as texts. -/
import Derived.Test.YtmbbmibkjnlkkaaDoorPqt
import Derived.Test.YtmbbmibkjnlkkaaDoorJrp
import Derived.Test.YtmbbmibkjnlkkaaDoorJsg
import Derived.Test.YtmbbmibkjnlkkaaDoorOvr
import Derived.Lib.CountLaws
namespace Go.Proofs.YtmbbmibkjnlkkaaDoor
open Go.ChangeShapes Go.WideShapes Go.ChangeAt Go.RowKit Go.Shelf
theorem pHn_tree (x : Nat) : (97 ≤ x ∧ x ≤ 122) ∨ 122 < x ∨ (65 ≤ x ∧ x ≤ 90) ∨ (90 < x ∧ x < 97) ∨ (48 ≤ x ∧ x ≤ 57) ∨ (57 < x ∧ x < 65) ∨ x = 45 ∨ (x < 48 ∧ x ≠ 45) := by omega
theorem ret_boolJ {a b : Bool} (h : a = b) : Ending.returned (.bool a) = .returned (.bool b) := by rw [h]
theorem inHandleJ (w : World) : PredB 133 #[] pHn w := by
  intro W x hx hb
  show Calls Tryd.prog 133 #[.int .u8 (x : Int)] W _
  clear hb hx
  rcases pHn_tree x with ⟨h1, h2⟩ | h1 | ⟨h1, h2⟩ | ⟨h1, h2⟩ | ⟨h1, h2⟩ | ⟨h1, h2⟩ | h1 | ⟨h1, h2⟩
  · go_enter Tryd.func133, Tryd.ntmps133
    go_wp2_with fail
    go_ret
    exact ⟨ret_boolJ (by unfold pHn; simp; omega), Below.refl _ _⟩
  · go_enter Tryd.func133, Tryd.ntmps133
    go_wp2_with fail
    go_ret
    exact ⟨ret_boolJ (by rw [Bool.eq_iff_iff]; unfold pHn; simp; omega), Below.refl _ _⟩
  · go_enter Tryd.func133, Tryd.ntmps133
    go_wp2_with fail
    go_ret
    exact ⟨ret_boolJ (by unfold pHn; simp; omega), Below.refl _ _⟩
  · go_enter Tryd.func133, Tryd.ntmps133
    go_wp2_with fail
    go_ret
    exact ⟨ret_boolJ (by rw [Bool.eq_iff_iff]; unfold pHn; simp; omega), Below.refl _ _⟩
  · go_enter Tryd.func133, Tryd.ntmps133
    go_wp2_with fail
    go_ret
    exact ⟨ret_boolJ (by unfold pHn; simp; omega), Below.refl _ _⟩
  · go_enter Tryd.func133, Tryd.ntmps133
    go_wp2_with fail
    go_ret
    exact ⟨ret_boolJ (by rw [Bool.eq_iff_iff]; unfold pHn; simp; omega), Below.refl _ _⟩
  · subst h1
    go_enter Tryd.func133, Tryd.ntmps133
    go_wp2_with fail
    go_ret
    exact ⟨ret_boolJ (by rfl), Below.refl _ _⟩
  · have h3 : ((x : Int) == 45) = false := by rw [beq_eq_false_iff_ne]; omega
    have HE : Hid (pHn x = false) := by show pHn x = false; rw [← Bool.not_eq_true]; unfold pHn; simp; omega
    clear h2
    go_enter Tryd.func133, Tryd.ntmps133
    go_wp2_with fail
    go_ret
    exact ⟨ret_boolJ HE.out.symm, Below.refl _ _⟩
theorem inKeyJ (w : World) : PredB 132 #[] pKy w := by
  intro W x hx hb
  show Calls Tryd.prog 132 #[.int .u8 (x : Int)] W _
  have cH : Calls Tryd.prog 133 #[.int .u8 (x : Int)] W fun e w' => e = .returned (.bool (pHn x)) ∧ Below W.heap.size W w' := inHandleJ W W x hx (Below.refl _ _)
  have HK : Hid (pKy x = (pHn x || x == 95)) := rfl
  clear hb hx
  cases hp : pHn x with
  | true =>
    rw [hp] at cH
    have HO : Hid (true = pKy x) := by show _ = _; rw [HK.out, hp]; rfl
    clear hp HK
    go_enter Tryd.func132, Tryd.ntmps132
    go_wp2_with fail
    refine cH.mono ?_
    rintro e w1 ⟨rfl, hb1⟩
    go_wp2_with fail
    go_ret
    exact ⟨ret_boolJ HO.out, hb1⟩
  | false =>
    rw [hp] at cH
    by_cases h95 : x = 95
    · subst h95
      have HO : Hid (true = pKy 95) := by show _ = _; rw [HK.out, hp]; rfl
      clear hp HK
      go_enter Tryd.func132, Tryd.ntmps132
      go_wp2_with fail
      refine cH.mono ?_
      rintro e w1 ⟨rfl, hb1⟩
      go_wp2_with fail
      go_ret
      exact ⟨ret_boolJ HO.out, hb1⟩
    · have h3 : ((x : Int) == 95) = false := by rw [beq_eq_false_iff_ne]; omega
      have HO : Hid (false = pKy x) := by show _ = _; rw [HK.out, hp, Bool.false_or, beq_eq_false_iff_ne.2 h95]
      clear hp HK h95
      go_enter Tryd.func132, Tryd.ntmps132
      go_wp2_with fail
      refine cH.mono ?_
      rintro e w1 ⟨rfl, hb1⟩
      go_wp2_with fail
      go_ret
      exact ⟨ret_boolJ HO.out, hb1⟩
theorem pDg_signs : ∀ x, x < 256 → pDg x = (ByteArray.mk #[48, 49, 50, 51, 52, 53, 54, 55, 56, 57]).data.toList.contains x.toUInt8 := by
  intro x hx
  show pDg x = [48, 49, 50, 51, 52, 53, 54, 55, 56, 57].contains x.toUInt8
  simp only [List.contains_cons, List.contains_nil, u8_eq hx, Bool.or_false]
  rw [Bool.eq_iff_iff]
  unfold pDg
  simp
  omega
theorem digitsOver_any (s : ByteArray) (w : World) (hs : s.size ≤ mx) :
    Calls Tryd.prog 134 #[.string s] w fun e w' => e = .returned (.int .i64 (fwd pDg s 0 : Nat)) ∧ Below w.heap.size w w' := by
  have HS : Hid (s.size ≤ mx) := hs
  clear hs
  go_enter Tryd.func134, Tryd.ntmps134
  go_wp2_with fail
  refine (among_any _ w).mono ?_
  rintro e w1 ⟨B, rfl, hB, hb1⟩
  have cO := among_over s _ 0 pDg B w1 HS.out hB pDg_signs
  rw [show cl s.size 0 = 0 by unfold cl; simp] at cO
  clear hB
  go_wp2_with fail
  refine cO.mono ?_
  rintro e w2 ⟨rfl, hb2⟩
  go_wp2_with fail
  go_ret
  exact ⟨rfl, hb1.trans (hb2.mono hb1.size)⟩
theorem fwd_dg {s : ByteArray} : fwd pDg s 0 = 0 ↔ s.size = 0 ∨ pDg (bt s 0) = false := by
  by_cases h : s.size = 0
  · exact ⟨fun _ => .inl h, fun _ => fwd_end (by omega)⟩
  · cases hp : pDg (bt s 0) with
    | false => exact ⟨fun _ => .inr rfl, fun _ => fwd_stop hp⟩
    | true =>
      rw [fwd_step (by omega) hp]
      refine ⟨fun e => ?_, fun e => by rcases e with e | e; exact absurd e h; cases e⟩
      have := fwd_ge pDg s (0 + 1)
      omega
theorem bare_any (s : ByteArray) (w : World) (hs : s.size ≤ mx) :
    Calls Tryd.prog 129 #[.string s] w fun e w' => e = .returned (.bool (wordT s)) ∧ Below w.heap.size w w' := by
  obtain ⟨o, ho⟩ : ∃ o, wordT s = o := ⟨_, rfl⟩
  have HO : Hid ((decide (0 < s.size) && (!pDg (bt s 0) && decide (fwd pKy s 0 = s.size))) = o) := ho
  rw [ho]
  have cD := digitsOver_any s w hs
  have HV : Hid (∀ u, Calls Tryd.prog 62 #[.string s, .int .i64 0, .func (.func 132) #[] #[]] u fun e w' => e = .returned (.int .i64 (fwd pKy s 0 : Nat)) ∧ Below u.heap.size u w') := fun u => by
    have := over_any s 0 132 #[] pKy (enters_of Tryd.func132 (by kernel_rfl) rfl) u hs (inKeyJ u)
    rwa [show cl s.size 0 = 0 by unfold cl; simp] at this
  have hd := @fwd_dg s
  have hsz : (s.toList = []) ↔ s.size = 0 := by
    rw [ByteArray.toList_eq]
    exact ⟨fun e => by show s.data.size = 0; rw [← Array.length_toList, e]; rfl, fun e => List.eq_nil_of_length_eq_zero (by rw [Array.length_toList]; exact e)⟩
  clear ho hs
  by_cases h0 : s.size = 0
  · have t1 : (s.toList == []) = true := by rw [hsz.2 h0]; rfl
    have t2 : (s.toList != []) = false := by rw [bne, t1]; rfl
    have HO : Hid (false = o) := by show _ = _; rw [← HO.out, decide_eq_false (by omega)]; rfl
    clear hsz h0 hd cD HV
    go_enter Tryd.func129, Tryd.ntmps129
    go_wp2_with fail
    go_ret
    exact ⟨ret_boolJ HO.out, Below.refl _ _⟩
  have hne : ¬ s.toList = [] := fun e => h0 (hsz.1 e)
  have t1 : (s.toList == []) = false := by rw [beq_eq_false_iff_ne]; exact hne
  have t2 : (s.toList != []) = true := by rw [bne, t1]; rfl
  have HO2 : Hid ((!pDg (bt s 0) && decide (fwd pKy s 0 = s.size)) = o) := by show _ = _; rw [← HO.out, decide_eq_true (show 0 < s.size by omega)]; rfl
  have hf : fwd pKy s 0 ≤ s.size := fwd_le _ _ _ (by omega)
  generalize fwd pKy s 0 = f at *
  generalize fwd pDg s 0 = g at *
  clear HO hsz hne
  cases hp : pDg (bt s 0) with
  | true =>
    have hg : ¬ g = 0 := fun e => by rcases hd.1 e with e | e; exact h0 e; rw [hp] at e; cases e
    have t3 : ((g : Int) == 0) = false := by rw [beq_eq_false_iff_ne]; omega
    have HO : Hid (false = o) := by show _ = _; rw [← HO2.out, hp]; rfl
    clear hp hd hg h0 HO2 HV hf
    go_enter Tryd.func129, Tryd.ntmps129
    go_wp2_with fail
    refine cD.mono ?_
    rintro e w1 ⟨rfl, hb1⟩
    have HB1 : Hid (Below w.heap.size w w1) := hb1
    clear hb1 cD
    go_wp2_with fail
    go_ret
    exact ⟨ret_boolJ HO.out, HB1.out⟩
  | false =>
    obtain rfl : g = 0 := hd.2 (.inr hp)
    have HO3 : Hid (decide (f = s.size) = o) := by show _ = _; rw [← HO2.out, hp]; rfl
    clear hp hd HO2
    go_enter Tryd.func129, Tryd.ntmps129
    go_wp2_with fail
    refine cD.mono ?_
    rintro e w1 ⟨rfl, hb1⟩
    have HB1 : Hid (Below w.heap.size w w1) := hb1
    clear hb1 cD
    go_wp2_with fail
    refine (HV.out w1).mono ?_
    rintro e w2 ⟨rfl, hb2⟩
    have HB2 : Hid (Below w.heap.size w w2) := HB1.out.trans (hb2.mono HB1.out.size)
    clear hb2 HV
    by_cases hfs : f = s.size
    · subst hfs
      have HO : Hid (true = o) := by show _ = _; rw [← HO3.out, decide_eq_true rfl]
      clear HO3
      go_wp2_with fail
      go_ret
      exact ⟨ret_boolJ HO.out, HB2.out⟩
    · have t3 : ((f : Int) == (s.size : Int)) = false := by rw [beq_eq_false_iff_ne]; omega
      have HO : Hid (false = o) := by show _ = _; rw [← HO3.out, decide_eq_false hfs]
      clear HO3 hfs
      go_wp2_with fail
      go_ret
      exact ⟨ret_boolJ HO.out, HB2.out⟩
/-- What the world must hold: the table, and that the library's bound is an int. -/
def TxV (w : World) : Prop := TabV w ∧ ∃ m, w.cell? ⟨0, 0, none⟩ = some (.int .i64 m)
theorem TxV.lasts {w w' : World} (h : TxV w) (hb : Below w.heap.size w w') : TxV w' := by
  obtain ⟨h1, m, h2⟩ := h
  exact ⟨h1.lasts hb, m, by rw [hb.cell (World.block_lt_of_cell? w _ h2)]; exact h2⟩
theorem replace39 (s : ByteArray) (w : World) (hs : s.size ≤ 1048576) (hV : TxV w) :
    Calls Tryd.prog 70 #[.string s, .string ⟨#[39]⟩, .string ⟨#[39, 39]⟩] w fun e w' => e = .returned (.string ⟨(dbl s.data.toList).toArray⟩) ∧ Below w.heap.size w w' := by
  obtain ⟨_, m, hm⟩ := hV
  have hc : Lib.countB s ⟨#[39]⟩ ≤ s.size + 1 := Lib.count_le s.data.toList [39]
  have := Tryd.strings_ReplaceAll s ⟨#[39]⟩ ⟨#[39, 39]⟩ m w (by omega) hm (by decide) (by
    show s.size + Lib.countB s ⟨#[39]⟩ * 2 ≤ 140737488355328
    omega)
  rw [show (⟨#[39]⟩ : ByteArray).data.toList = [39] from rfl, show (⟨#[39, 39]⟩ : ByteArray).data.toList = [39, 39] from rfl, all39] at this
  exact this
theorem ret_strJ {a b : ByteArray} (h : a = b) : Ending.returned (.string a) = .returned (.string b) := by rw [h]
theorem textKey (s : ByteArray) (w : World) (hs : s.size ≤ 1048576) (hV : TxV w) :
    Calls Tryd.prog 131 #[.string s] w fun e w' => e = .returned (.string (keyT s)) ∧ Below w.heap.size w w' := by
  have cB := bare_any s w (by unfold mx; omega)
  have HR : Hid (∀ u, Below w.heap.size w u → Calls Tryd.prog 70 #[.string s, .string ⟨#[39]⟩, .string ⟨#[39, 39]⟩] u fun e w' => e = .returned (.string ⟨(dbl s.data.toList).toArray⟩) ∧ Below u.heap.size u w') := fun u hu => replace39 s u hs (hV.lasts hu)
  have HD : Hid ((⟨(dbl s.data.toList).toArray⟩ : ByteArray).size ≤ 2097152) := by
    show (dbl s.data.toList).length ≤ 2097152
    have h1 := dbl_len s.data.toList
    have h2 : s.data.toList.length = s.size := Array.length_toList
    omega
  have HK : Hid (keyT s = if wordT s = true then s else q39 ++ ⟨(dbl s.data.toList).toArray⟩ ++ q39) := rfl
  generalize (⟨(dbl s.data.toList).toArray⟩ : ByteArray) = d at *
  clear hs hV
  cases hw : wordT s with
  | true =>
    rw [hw] at cB
    have HO : Hid (s = keyT s) := by show _ = _; rw [HK.out, hw]; rfl
    clear hw HK HR HD
    go_enter Tryd.func131, Tryd.ntmps131
    go_wp2_with fail
    refine cB.mono ?_
    rintro e w1 ⟨rfl, hb1⟩
    go_wp2_with fail
    go_ret
    exact ⟨ret_strJ HO.out, hb1⟩
  | false =>
    rw [hw] at cB
    have HO : Hid ((⟨#[39]⟩ : ByteArray) ++ d ++ ⟨#[39]⟩ = keyT s) := by show _ = _; rw [HK.out, hw]; rfl
    clear hw HK
    go_enter Tryd.func131, Tryd.ntmps131
    go_wp2_with fail
    refine cB.mono ?_
    rintro e w1 ⟨rfl, hb1⟩
    have HB1 : Hid (Below w.heap.size w w1) := hb1
    clear hb1 cB
    go_wp2_with fail
    refine (HR.out w1 HB1.out).mono ?_
    rintro e w2 ⟨rfl, hb2⟩
    have HB2 : Hid (Below w.heap.size w w2) := HB1.out.trans (hb2.mono HB1.out.size)
    have hdz := HD.out
    clear hb2 HR
    go_wp2_with fail
    go_ret
    exact ⟨ret_strJ HO.out, HB2.out⟩
end Go.Proofs.YtmbbmibkjnlkkaaDoor
