/- The law on tags: at every list of bytes it returns true. -/
import Derived.Test.YtopmboioojedbadTr
import Derived.Test.YtopmboioojedbadDwn
namespace Go.Proofs.Ytopmboioojedbad
open Go.ChangeShapes Go.WideShapes Go.ChangeAt Go.RowKit Go.Shelf Go.Maps
def bH : ByteArray := ⟨#[33, 104, 33]⟩
def bP : ByteArray := ⟨#[112, 58]⟩
def bG : ByteArray := ⟨#[33, 103, 33]⟩
def bX : ByteArray := ⟨#[32, 120]⟩
def goodT (t : ByteArray) : Bool :=
  decide (tagT (bA ++ t ++ bZ ++ bX) 0 = bA ++ t ++ bZ) && decide (tagE (bA ++ t ++ bZ ++ bX) 0 = (bA ++ t ++ bZ).size) && tagB (bA ++ t ++ bZ ++ bX) 0
    && decide (trO (ne0 (look [])) (bA ++ t ++ bZ) = some t) && decide (trO (ne0 (look [(bH, bP)])) (bH ++ t) = some (bP ++ t)) && decide (trO (ne0 (look [])) (bG ++ t) = none) && decide (t.size ≤ 100)
def wordP (t : ByteArray) : Bool := decide (t = ⟨#[97, 32, 98]⟩) || goodT t
structure GoodT (t : ByteArray) : Prop where
  t1 : tagT (bA ++ t ++ bZ ++ bX) (cl (bA ++ t ++ bZ ++ bX).size 0) = bA ++ t ++ bZ
  t2 : tagE (bA ++ t ++ bZ ++ bX) (cl (bA ++ t ++ bZ ++ bX).size 0) = (bA ++ t ++ bZ).size
  t3 : tagB (bA ++ t ++ bZ ++ bX) (cl (bA ++ t ++ bZ ++ bX).size 0) = true
  t4 : trO (ne0 (look [])) (bA ++ t ++ bZ) = some t
  t5 : trO (ne0 (look [(bH, bP)])) (bH ++ t) = some (bP ++ t)
  t6 : trO (ne0 (look [])) (bG ++ t) = none
  t7 : t.size ≤ 100
theorem goodT_of {t : ByteArray} (h : goodT t = true) : GoodT t := by
  unfold goodT at h
  simp only [Bool.and_eq_true, decide_eq_true_eq] at h
  obtain ⟨⟨⟨⟨⟨⟨h1, h2⟩, h3⟩, h4⟩, h5⟩, h6⟩, h7⟩ := h
  have e : cl (bA ++ t ++ bZ ++ bX).size 0 = 0 := by unfold cl; simp
  exact ⟨by rw [e]; exact h1, by rw [e]; exact h2, by rw [e]; exact h3, h4, h5, h6, h7⟩
theorem good_ab : GoodT ⟨#[97, 98]⟩ := goodT_of (by kernel_rfl)
set_option maxHeartbeats 2000000 in
theorem wordP_any (P : Nat) (w : World) (hC : Cu P w) :
    Calls Try.prog 30 #[.pointer (some ⟨P, 0, none⟩)] w fun e w' => ∃ t, e = .returned (.string t) ∧ wordP t = true ∧ St P w w' := by
  go_enter Try.func30, Try.ntmps30
  go_wp2_with fail
  refine Calls.mono (ofP_lit wordP P _ _ w _ _ rfl hC (by kernel_rfl) (by decide) (by decide) (by kernel_rfl)) ?_
  rintro e w1 ⟨t, rfl, ht, hS⟩
  go_wp2_with fail
  go_ret
  exact ⟨t, rfl, ht, hS⟩
def WordPost (w : World) (e : Ending) (w' : World) : Prop := ∃ t, e = .returned (.string t) ∧ (t = ⟨#[97, 32, 98]⟩ ∨ GoodT t) ∧ Below w.heap.size w w'
theorem makeWord_any (a : Option Addr) (len cap : Nat) (w : World) (hb : Bs w.heap.size a len w) :
    Calls Try.prog 15 #[.slice a len cap] w (WordPost w) := by
  go_enter Try.func15, Try.ntmps15
  go_wp2_with fail
  refine (newC_any a len cap w hb).mono ?_
  rintro e w1 ⟨rfl, hC, hB⟩
  go_wp2_with fail
  refine (wordP_any _ w1 hC).mono ?_
  rintro e w2 ⟨t2, rfl, h2, S2⟩
  have HW : Hid (t2 = ⟨#[97, 32, 98]⟩ ∨ GoodT t2) := by
    unfold wordP at h2
    simp only [Bool.or_eq_true, decide_eq_true_eq] at h2
    exact h2.imp id goodT_of
  clear h2
  go_wp2_with fail
  go_ret
  exact ⟨t2, rfl, HW.out, hB.trans (S2.2.below (Nat.le_refl _))⟩
theorem mx_of {t : ByteArray} (h : t.size ≤ 100) : (⟨#[33, 60]⟩ ++ t ++ ⟨#[62]⟩ ++ ⟨#[32, 120]⟩ : ByteArray).size ≤ mx := by
  simp only [ByteArray.size_append]
  show 2 + t.size + 1 + 2 ≤ mx
  unfold mx; omega
theorem cTag {t : ByteArray} (G : GoodT t) (w : World) : Calls Try.prog 16 #[.string (⟨#[33, 60]⟩ ++ t ++ ⟨#[62]⟩ ++ ⟨#[32, 120]⟩), .int .i64 0] w fun e w' => e = .returned (.tuple #[.string (⟨#[33, 60]⟩ ++ t ++ ⟨#[62]⟩), .int .i64 ((⟨#[33, 60]⟩ ++ t ++ ⟨#[62]⟩ : ByteArray).size : Int), .bool true]) ∧ Below w.heap.size w w' :=
  tag_any' _ 0 w (mx_of G.t7) _ _ _ G.t1 G.t2 G.t3
theorem cRaw {t : ByteArray} (G : GoodT t) (w : World) : Calls Try.prog 17 #[.string (⟨#[33, 60]⟩ ++ t ++ ⟨#[62]⟩), .slice none 0 0] w fun e w' => e = .returned (.tuple #[.string t, .bool true]) ∧ Below w.heap.size w w' :=
  tagRead_any _ _ [] w (some t) (by have := G.t7; simp only [ByteArray.size_append]; show 2 + t.size + 1 ≤ _; omega) (.inl ⟨rfl, _, _, rfl⟩) (fun h hh => by cases hh) (by decide) G.t4
theorem cNot {t : ByteArray} (G : GoodT t) (w : World) : Calls Try.prog 17 #[.string (⟨#[33, 103, 33]⟩ ++ t), .slice none 0 0] w fun e w' => e = .returned (.tuple #[.string ByteArray.empty, .bool false]) ∧ Below w.heap.size w w' :=
  tagRead_any _ _ [] w none (by have := G.t7; simp only [ByteArray.size_append]; show 3 + t.size ≤ _; omega) (.inl ⟨rfl, _, _, rfl⟩) (fun h hh => by cases hh) (by decide) G.t6
theorem cHnd {t : ByteArray} (G : GoodT t) (w w' : World) (T : TypeId) (hw : w' = w.alloc (.cells #[.string ⟨#[33, 104, 33]⟩, .string ⟨#[112, 58]⟩] T)) : Calls Try.prog 17 #[.string (⟨#[33, 104, 33]⟩ ++ t), .slice (some ⟨w.heap.size, 0, none⟩) 1 1] w' fun e w2 => e = .returned (.tuple #[.string (⟨#[112, 58]⟩ ++ t), .bool true]) ∧ Below w.heap.size w w2 := by
  have hal : Below w.heap.size w w' := by rw [hw]; exact (Below.refl _ w).alloc (Nat.le_refl _) _
  have hb : w'.heap[w.heap.size]? = some (.cells #[.string ⟨#[33, 104, 33]⟩, .string ⟨#[112, 58]⟩] T (0, 0)) := by
    rw [hw]
    show (w.heap.push _)[w.heap.size]? = _
    simp
  refine Calls.mono (tagRead_any _ _ [(bH, bP)] w' (some (bP ++ t)) (by have := G.t7; simp only [ByteArray.size_append]; show 3 + t.size ≤ _; omega) (.inr ⟨by simp, w.heap.size, 0, 1, rfl, (Array.getElem?_eq_some_iff.1 hb).1, ?_⟩) ?_ (by decide) G.t5) ?_
  · intro i h hi
    cases i with
    | zero =>
      simp at hi
      subst hi
      exact ⟨by simp [World.cell?, hb]; rfl, by simp [World.cell?, hb]; rfl⟩
    | succ i => simp at hi
  · intro h hh
    obtain rfl : h = (bH, bP) := by simpa using hh
    exact ⟨by show 3 ≤ _; omega, by show 2 ≤ _; omega⟩
  · rintro e w2 ⟨rfl, hb2⟩
    exact ⟨rfl, hal.trans (hb2.mono hal.size)⟩
theorem cOk (w : World) : Calls Try.prog 18 #[.agg #[.string ⟨#[33, 104, 33]⟩, .string ⟨#[112, 58]⟩]] w fun e w' => e = .returned (.bool true) ∧ Below w.heap.size w w' :=
  handleOk_any _ _ w true (by show 3 ≤ mx; unfold mx; omega) (by show 2 ≤ mx; unfold mx; omega) (by kernel_rfl)
set_option maxHeartbeats 4000000 in
theorem law_tag (a : Option Addr) (len cap : Nat) (w : World) (hb : len ≤ 1048576 → Bs w.heap.size a len w) :
    Calls Try.prog 4 #[.slice a len cap] w fun e w' => e = .returned (.bool true) ∧ Below w.heap.size w w' := by
  by_cases hbig : (1048576 : Int) < (len : Int)
  · clear hb
    go_enter Try.func4, Try.ntmps4
    go_wp2_with fail
    go_ret
    exact ⟨rfl, Below.refl _ _⟩
  · have hb' := hb (by omega)
    have cM := makeWord_any a len cap w hb'
    clear hb hb'
    go_enter Try.func4, Try.ntmps4
    go_wp2_with fail
    refine cM.mono ?_
    rintro e w1 ⟨t, rfl, ht, hb1⟩
    clear cM
    rcases ht with rfl | hG
    · go_wp2_with fail
      have HG : Hid (GoodT ⟨#[97, 98]⟩) := good_ab
      have hz : (ByteArray.mk #[97, 98]).size ≤ 100 := by decide
      generalize ByteArray.mk #[97, 98] = t at HG hz ⊢
      refine (cTag HG.out w1).mono ?_
      rintro e w2 ⟨rfl, hb2⟩
      have hB2 := hb1.trans (hb2.mono hb1.size)
      clear hb1 hb2
      go_wp2_with fail
      refine (cRaw HG.out w2).mono ?_
      rintro e w3 ⟨rfl, hb3⟩
      have hB3 := hB2.trans (hb3.mono hB2.size)
      clear hB2 hb3
      go_wp2_with fail
      refine Calls.mono (cHnd HG.out w3 _ _ rfl) ?_
      rintro e w4 ⟨rfl, hb4⟩
      have hB4 := hB3.trans (hb4.mono hB3.size)
      clear hB3 hb4
      go_wp2_with fail
      refine (cNot HG.out w4).mono ?_
      rintro e w5 ⟨rfl, hb5⟩
      have hB5 := hB4.trans (hb5.mono hB4.size)
      clear hB4 hb5
      go_wp2_with fail
      refine (cOk w5).mono ?_
      rintro e w6 ⟨rfl, hb6⟩
      have hB6 := hB5.trans (hb6.mono hB5.size)
      clear hB5 hb6
      go_wp2_with fail
      go_ret
      exact ⟨rfl, hB6⟩
    · by_cases hab : t = ⟨#[97, 32, 98]⟩
      · exfalso
        have h1 := hG.t1
        rw [hab] at h1
        exact absurd h1 (by decide +kernel)
      have hne : (t.toList == [97, 32, 98]) = false := by have := toList_ne hab; rw [show (ByteArray.mk #[97, 32, 98]).toList = [97, 32, 98] from by rw [ByteArray.toList_eq]] at this; exact this
      have hz := hG.t7
      have HG : Hid (GoodT t) := hG
      clear hG hab
      go_wp2_with fail
      refine (cTag HG.out w1).mono ?_
      rintro e w2 ⟨rfl, hb2⟩
      have hB2 := hb1.trans (hb2.mono hb1.size)
      clear hb1 hb2
      go_wp2_with fail
      refine (cRaw HG.out w2).mono ?_
      rintro e w3 ⟨rfl, hb3⟩
      have hB3 := hB2.trans (hb3.mono hB2.size)
      clear hB2 hb3
      go_wp2_with fail
      refine Calls.mono (cHnd HG.out w3 _ _ rfl) ?_
      rintro e w4 ⟨rfl, hb4⟩
      have hB4 := hB3.trans (hb4.mono hB3.size)
      clear hB3 hb4
      go_wp2_with fail
      refine (cNot HG.out w4).mono ?_
      rintro e w5 ⟨rfl, hb5⟩
      have hB5 := hB4.trans (hb5.mono hB4.size)
      clear hB4 hb5
      go_wp2_with fail
      refine (cOk w5).mono ?_
      rintro e w6 ⟨rfl, hb6⟩
      have hB6 := hB5.trans (hb6.mono hB5.size)
      clear hB5 hb6
      go_wp2_with fail
      go_ret
      exact ⟨rfl, hB6⟩
end Go.Proofs.Ytopmboioojedbad
