/- The law on block scalars (FnLiteral), walked, over impl's contracts. -/
import Derived.Test.YtfpkcfedkjjjbacDlt
import Derived.Test.YtfpkcfedkjjjbacFlt
import Derived.Test.YtfpkcfedkjjjbacLfo
import Derived.Test.YtfpkcfedkjjjbacIlh
namespace Go.Proofs.Ytfpkcfedkjjjbac
open Go.ChangeShapes Go.WideShapes Go.ChangeAt Go.RowKit Go.Deep
theorem pT_ok {x : ByteArray} (h : pT x = true) : Nonempty (LineOk x) ∧ x.size ≤ 4 := by
  have key : ∀ {a : Array UInt8}, x.data.toList = a.toList → x = ⟨a⟩ := fun e => ba_ext e
  unfold pT at h
  rw [List.contains_iff_mem] at h
  simp only [txL, List.mem_cons, List.not_mem_nil, or_false] at h
  rcases h with h | h | h | h | h | h
  · rw [key (a := #[]) h]; exact ⟨⟨ok0⟩, by decide⟩
  · rw [key (a := #[97]) h]; exact ⟨⟨ok1⟩, by decide⟩
  · rw [key (a := #[98, 32, 99]) h]; exact ⟨⟨ok2⟩, by decide⟩
  · rw [key (a := #[32, 102, 97, 114]) h]; exact ⟨⟨ok3⟩, by decide⟩
  · rw [key (a := #[9, 116, 97, 98]) h]; exact ⟨⟨ok4⟩, by decide⟩
  · rw [key (a := #[120]) h]; exact ⟨⟨ok5⟩, by decide⟩
theorem tot_leT : ∀ {ss : List ByteArray}, (∀ s ∈ ss, s.size ≤ 100) → totS ss ≤ 100 * ss.length
  | [], _ => Nat.le_refl _
  | x :: t, h => by
    have h1 := h x (List.mem_cons_self ..)
    have h2 := tot_leT (fun y hy => h y (List.mem_cons_of_mem _ hy))
    simp only [totS, List.length_cons]
    omega
theorem srcG_snoc : ∀ (l : List ByteArray) (x : ByteArray), srcG (l ++ [x]) = srcG l ++ lnT x
  | [], x => by
    show lnT x ++ ByteArray.empty = ByteArray.empty ++ lnT x
    rw [app_empty, empty_app]
  | y :: t, x => by
    show lnT y ++ srcG (t ++ [x]) = lnT y ++ srcG t ++ lnT x
    rw [srcG_snoc t x, app_assoc]
theorem catB_snoc (l : List ByteArray) (x : ByteArray) : catB (l ++ [x]) = catB l ++ x ++ b10 := by
  rw [catB_app]
  show catB l ++ (x ++ b10 ++ ByteArray.empty) = _
  rw [app_empty, app_assoc]
theorem ext_left (A B : ByteArray) : (A ++ B).extract 0 A.size = A := by
  apply ba_ext
  rw [Lib.extract_data, ByteArray.data_append, Array.toList_append, List.drop_zero, Nat.sub_zero, show A.size = A.data.toList.length by simp, List.take_left]
/-- What the three chomps leave. -/
theorem block_chomps (l : List ByteArray) : ∃ A B : ByteArray, blockText l false 0 = blockText l false 1 ++ A ∧ A.size ≤ 1 ∧ catB l = blockText l false 0 ++ B := by
  refine ⟨if 0 < endB l l.length then b10 else ByteArray.empty, brks (l.length - endB l l.length), ?_, ?_, ?_⟩
  · unfold blockText
    rw [if_neg (show ¬ ((0 : Int) = 2) by decide), if_neg (show ¬ ((1 : Int) = 2) by decide), if_neg (show ¬ (0 < endB l l.length ∧ (1 : Int) ≠ 1) from fun h => h.2 rfl), app_empty, app_empty, app_empty]
    congr 1
    by_cases h : 0 < endB l l.length
    · rw [if_pos ⟨h, by decide⟩, if_pos h]
    · rw [if_neg (fun hh => h hh.1), if_neg h]
  · split
    · exact Nat.le_refl _
    · exact Nat.zero_le _
  · rw [← block_keep]
    unfold blockText
    rw [if_neg (show ¬ ((0 : Int) = 2) by decide), app_empty, if_pos (rfl : (2 : Int) = 2)]
    congr 2
    by_cases h : 0 < endB l l.length
    · rw [if_pos ⟨h, by decide⟩, if_pos ⟨h, by decide⟩]
    · rw [if_neg (fun hh => h hh.1), if_neg (fun hh => h hh.1)]
set_option maxRecDepth 100000 in
set_option maxHeartbeats 8000000 in
theorem law_literal (a : Option Addr) (len cap : Nat) (w : World) (hb : len ≤ 1048576 → Bs w.heap.size a len w) :
    Calls Try.prog 3 #[.slice a len cap] w fun e w' => e = .returned (.bool true) ∧ Below w.heap.size w w' := by
  by_cases hbig : (1048576 : Int) < (len : Int)
  · clear hb
    go_enter Try.func3, Try.ntmps3
    go_wp2_with fail
    go_ret
    exact ⟨rfl, Below.refl _ _⟩
  have hb' := hb (by omega)
  have cM := makeLines_anyT a len cap w hb'
  have HIB : Hid ImplBt := implBt
  clear hb hb'
  go_enter Try.func3, Try.ntmps3
  go_wp2_with fail
  refine cM.mono ?_
  rintro e w1 ⟨vl, ss, rfl, _, hL6, hsT, hSl, hB1⟩
  obtain ⟨l0, l2, rfl⟩ := hSl.sl
  have HSL : Hid (SlS w1 (.slice l0 ss.length l2) ss) := hSl
  have HST : Hid (∀ s ∈ ss, pT s = true) := hsT
  have HB1 : Hid (Below w.heap.size w w1) := hB1
  clear hsT hSl hB1 cM
  go_wp2_with fail
  go_loop [4, 5, 20] (fun sv wv iv => ∃ (k : Nat) (S W : ByteArray), sv = .string S ∧ wv = .string W ∧ iv = .int .i64 (k : Int) ∧ k ≤ ss.length ∧ Hid (hdr ++ srcG (ss.take k) = S) ∧ Hid (catB (ss.take k) = W) ∧ S.size ≤ 4 + 10 * k ∧ W.size ≤ 10 * k) (fun _ _ iv => ss.length - (intOf iv).toNat)
  case atStart => exact ⟨0, _, _, rfl, rfl, rfl, Nat.zero_le _, by show hdr ++ ByteArray.empty = _; rw [app_empty]; rfl, by show ByteArray.empty = _; rfl, by show 4 ≤ 4 + 0; omega, by show 0 ≤ 0; omega⟩
  case round =>
    obtain ⟨k, S, W, rfl, rfl, rfl, hk, HS, HW, hSz, hWz⟩ := hrel
    by_cases hlt : k < ss.length
    · obtain ⟨x, hx⟩ : ∃ h, ss[k]? = some h := ⟨_, List.getElem?_eq_getElem hlt⟩
      obtain ⟨b, off, rfl, c1⟩ := HSL.out.cells (Below.refl _ _) hx
      have hlt' : (k : Int) < (ss.length : Int) := by omega
      have hx4 : x.size ≤ 4 := (pT_ok (HST.out x (List.mem_of_getElem? hx))).2
      have HS2 : Hid (hdr ++ srcG (ss.take (k + 1)) = S ++ ⟨#[32]⟩ ++ x ++ ⟨#[10]⟩) := by
        show _ = _
        rw [List.take_add_one, hx, Option.toList_some, srcG_snoc, ← app_assoc, HS.out]
        show S ++ (b32 ++ x ++ b10) = S ++ b32 ++ x ++ b10
        simp only [app_assoc]
      have HW2 : Hid (catB (ss.take (k + 1)) = W ++ x ++ ⟨#[10]⟩) := by
        show _ = _
        rw [List.take_add_one, hx, Option.toList_some, catB_snoc, HW.out]
        rfl
      have z1 : (S ++ ⟨#[32]⟩ ++ x ++ ⟨#[10]⟩).size ≤ 4 + 10 * (k + 1) := by
        simp only [ByteArray.size_append]
        show S.size + 1 + x.size + 1 ≤ _
        omega
      have z2 : (W ++ x ++ ⟨#[10]⟩).size ≤ 10 * (k + 1) := by
        simp only [ByteArray.size_append]
        show W.size + x.size + 1 ≤ _
        omega
      have Z1 : Hid ((S ++ ⟨#[32]⟩ ++ x ++ ⟨#[10]⟩).size ≤ 4 + 10 * (k + 1)) := z1
      have Z2 : Hid ((W ++ x ++ ⟨#[10]⟩).size ≤ 10 * (k + 1)) := z2
      have y1 : (S ++ ⟨#[32]⟩).size ≤ 1000 := by rw [ByteArray.size_append]; show S.size + 1 ≤ 1000; omega
      have y2 : (S ++ ⟨#[32]⟩ ++ x).size ≤ 1000 := by rw [ByteArray.size_append, ByteArray.size_append]; show S.size + 1 + x.size ≤ 1000; omega
      have y3 : (W ++ x).size ≤ 1000 := by rw [ByteArray.size_append]; omega
      have hS1 : S.size ≤ 1000 := by omega
      have hW1 : W.size ≤ 1000 := by omega
      clear hx HS HW z1 z2 hSz hWz
      go_wp2_with fail
      go_round
      case rel => exact ⟨k + 1, _, _, rfl, rfl, by go_num, hlt, HS2, HW2, Z1.out, Z2.out⟩
      case measure => simp [intOf]; omega
    · have hlt' : ¬ (k : Int) < (ss.length : Int) := by omega
      have hke : k = ss.length := by omega
      have hS0 := HS.out
      have hW0 := HW.out
      rw [hke, List.take_length] at hS0 hW0
      obtain ⟨hlit, hdig⟩ := lit_src ss (fun x hx => (pT_ok (HST.out x hx)).1)
      rw [hS0] at hdig
      rw [hS0, hW0] at hlit
      have cL := implLiI S 0 (-1) w1 W S.size 0 (by omega) (by rw [show cl S.size 0 = 0 by unfold cl; simp, lit_same hdig]; exact hlit)
      have htot : totS ss + ss.length ≤ 8388608 := by
        have h1 : totS ss ≤ 100 * ss.length := tot_leT (fun x hx => by have := (pT_ok (HST.out x hx)).2; omega)
        omega
      have HTOT : Hid (totS ss + ss.length ≤ 8388608) := htot
      obtain ⟨A, B, hA, hA1, hB⟩ := block_chomps ss
      have hK := block_keep ss
      rw [hW0] at hK hB
      obtain ⟨C0, hC0⟩ : ∃ C, blockText ss false 0 = C := ⟨_, rfl⟩
      obtain ⟨C1, hC1⟩ : ∃ C, blockText ss false 1 = C := ⟨_, rfl⟩
      have HC0 : Hid (blockText ss false 0 = C0) := hC0
      have HC1 : Hid (blockText ss false 1 = C1) := hC1
      have HK : Hid (blockText ss false 2 = W) := hK
      rw [hC0, hC1] at hA
      rw [hC0] at hB
      have s1 : C0.size = C1.size + A.size := by rw [hA, ByteArray.size_append]
      have s2 : W.size = C0.size + B.size := by rw [hB, ByteArray.size_append]
      have x1 : W.extract 0 C0.size = C0 := by rw [hB]; exact ext_left C0 B
      have x2 : C0.extract 0 C1.size = C1 := by rw [hA]; exact ext_left C1 A
      have r1 : (C1.size : Int) ≤ (C0.size : Int) := by omega
      have r2 : (C0.size : Int) ≤ (W.size : Int) := by omega
      have r3 : (C0.size : Int) - (C1.size : Int) ≤ 1 := by omega
      have r4 : C0.size ≤ 1000 := by omega
      have r5 : C1.size ≤ 1000 := by omega
      have t1 : (W.toList != W.toList) = false := by simp
      clear hlit hdig hS0 hW0 HS HW hC0 hC1 hA hB hK s1 s2 htot hke hA1
      go_wp2_with fail
      refine cL.mono ?_
      rintro e w2 ⟨rfl, hb2⟩
      have hB2 : Below w.heap.size w w2 := HB1.out.trans (hb2.mono HB1.out.size)
      have hS2 := HSL.out.stays hb2
      have c0 := HIB.out w2 _ ss false 0 hS2 HTOT.out (by decide)
      rw [HC0.out] at c0
      clear cL hb2
      go_wp2_with fail
      refine c0.mono ?_
      rintro e w3 ⟨rfl, hb3⟩
      have hB3 : Below w.heap.size w w3 := hB2.trans (hb3.mono hB2.size)
      have hS3 := hS2.stays hb3
      have c1 := HIB.out w3 _ ss false 1 hS3 HTOT.out (by decide)
      rw [HC1.out] at c1
      clear c0 hb3 hB2 hS2
      go_wp2_with fail
      refine c1.mono ?_
      rintro e w4 ⟨rfl, hb4⟩
      have hB4 : Below w.heap.size w w4 := hB3.trans (hb4.mono hB3.size)
      have hS4 := hS3.stays hb4
      have c2 := HIB.out w4 _ ss false 2 hS4 HTOT.out (by decide)
      rw [HK.out] at c2
      clear c1 hb4 hB3 hS3 hS4
      go_wp2_with fail
      refine c2.mono ?_
      rintro e w5 ⟨rfl, hb5⟩
      have hB5 : Below w.heap.size w w5 := hB4.trans (hb5.mono hB4.size)
      clear c2 hb5 hB4
      go_wp2_with fail
      go_ret
      exact ⟨by first | rfl | simp, hB5⟩
end Go.Proofs.Ytfpkcfedkjjjbac
