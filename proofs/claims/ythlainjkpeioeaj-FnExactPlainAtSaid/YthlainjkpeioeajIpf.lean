/- The contract of impl.PlainFirst. -/
import Derived.Test.YthlainjkpeioeajIsg
import Derived.Test.YthlainjkpeioeajSpf
namespace Go.Proofs.Ythlainjkpeioeaj
open Go.ChangeShapes Go.WideShapes Go.ChangeAt Go.RowKit Go.Shelf
theorem plF_alone {s : ByteArray} {k : Nat} {fl : Bool} (hg : gapP s k = false) (hb : pBad (bt s k) = false) (h3 : p3q (bt s k) = true) : plF s k fl = !alo s (k + 1) fl := by
  have hb' : bt s k ∉ badL := by
    intro h
    have : badL.contains (bt s k) = true := List.contains_iff_mem.2 h
    rw [show badL.contains (bt s k) = false from hb] at this
    cases this
  rw [plF_ask hg hb' ?_]
  · unfold alo
    cases gapP s (k + 1) <;> cases fl <;> cases pF6 (bt s (k + 1)) <;> rfl
  · unfold p3q at h3
    simp only [Bool.or_eq_true, beq_iff_eq] at h3
    omega
theorem plF_other {s : ByteArray} {k : Nat} {fl : Bool} (hg : gapP s k = false) (hb : pBad (bt s k) = false) (h3 : p3q (bt s k) = false) : plF s k fl = true := by
  have hb' : bt s k ∉ badL := by
    intro h
    have : badL.contains (bt s k) = true := List.contains_iff_mem.2 h
    rw [show badL.contains (bt s k) = false from hb] at this
    cases this
  refine plF_yes hg hb' ?_
  unfold p3q at h3
  simp only [Bool.or_eq_false_iff, beq_eq_false_iff_ne] at h3
  omega
set_option maxHeartbeats 2000000 in
theorem plainFirst_any (s : ByteArray) (p : Int) (fl : Bool) (w : World) (hs : s.size ≤ mx) (b : Bool) (hb : plF s (cl s.size p) fl = b) :
    Calls Try.prog 16 #[.string s, .int .i64 p, .bool fl] w fun e w' => e = .returned (.bool b) ∧ Below w.heap.size w w' := by
  have hcl := cl_le s.size p
  have cB := bring_any s p w hs
  have hs' : s.size ≤ 9223372036854775807 := by unfold mx at hs; omega
  generalize cl s.size p = k at *
  cases hg : gapP s k with
  | true =>
    have cG := gapAt_any s k w true hcl hg.symm
    obtain rfl : false = b := by rw [← hb]; exact (plF_gap hg).symm
    clear hb hg hcl hs hs'
    go_enter Try.func16, Try.ntmps16
    go_wp2_with fail
    refine cB.mono ?_
    rintro e w ⟨rfl, rfl⟩
    clear cB
    go_wp2_with fail
    refine cG.mono ?_
    rintro e w1 ⟨rfl, hb1⟩
    clear cG
    go_wp2_with fail
    go_ret
    exact ⟨rfl, hb1⟩
  | false =>
    have hlt := gapP_lt hg
    have cG := gapAt_any s k w false hcl hg.symm
    have cF : Hid (∀ w, Calls Try.prog 33 #[.string s, .int .i64 (k : Int), .string ⟨#[44, 91, 93, 123, 125, 35, 38, 42, 33, 124, 62, 39, 34, 37, 64, 96]⟩] w fun e w' => e = .returned (.bool (pBad (bt s k))) ∧ Below w.heap.size w w') := fun w => signQ s _ k pBad w _ pBad_signs (sgq_lt hlt).symm
    have c3 : Hid (∀ w, Calls Try.prog 33 #[.string s, .int .i64 (k : Int), .string ⟨#[45, 63, 58]⟩] w fun e w' => e = .returned (.bool (p3q (bt s k))) ∧ Below w.heap.size w w') := fun w => signQ s _ k p3q w _ p3q_signs (sgq_lt hlt).symm
    have cA : Hid (∀ w, Calls Try.prog 34 #[.string s, .int .i64 ((k : Int) + 1), .bool fl] w fun e w' => e = .returned (.bool (alo s (k + 1) fl)) ∧ Below w.heap.size w w') := fun w => alone_any s (k + 1) fl w _ (by omega) rfl
    have HA : Hid (pBad (bt s k) = false → p3q (bt s k) = true → b = !alo s (k + 1) fl) := fun h1 h2 => by rw [← hb]; exact plF_alone hg h1 h2
    have HO : Hid (pBad (bt s k) = false → p3q (bt s k) = false → b = true) := fun h1 h2 => by rw [← hb]; exact plF_other hg h1 h2
    have HB : Hid (pBad (bt s k) = true → b = false) := fun h1 => by rw [← hb]; exact plF_bad hg (List.contains_iff_mem.1 h1)
    have hk' : (k : Int) < 9223372036854775807 := by omega
    generalize alo s (k + 1) fl = al at *
    cases hpb : pBad (bt s k) with
    | true =>
      obtain rfl := HB.out hpb
      rw [hpb] at cF
      clear hb hg hcl hs HA HO HB cA c3 hpb hlt hs'
      go_enter Try.func16, Try.ntmps16
      go_wp2_with fail
      refine cB.mono ?_
      rintro e w ⟨rfl, rfl⟩
      clear cB
      go_wp2_with fail
      refine cG.mono ?_
      rintro e w1 ⟨rfl, hb1⟩
      clear cG
      go_wp2_with fail
      refine (cF.out w1).mono ?_
      rintro e w2 ⟨rfl, hb2⟩
      clear cF
      go_wp2_with fail
      go_ret
      exact ⟨rfl, hb1.trans (hb2.mono hb1.size)⟩
    | false =>
      rw [hpb] at cF
      cases hp3 : p3q (bt s k) with
      | false =>
        obtain rfl := HO.out hpb hp3
        rw [hp3] at c3
        clear hb hg hcl hs HA HO HB cA hpb hlt hp3 hs'
        go_enter Try.func16, Try.ntmps16
        go_wp2_with fail
        refine cB.mono ?_
        rintro e w ⟨rfl, rfl⟩
        clear cB
        go_wp2_with fail
        refine cG.mono ?_
        rintro e w1 ⟨rfl, hb1⟩
        clear cG
        go_wp2_with fail
        refine (cF.out w1).mono ?_
        rintro e w2 ⟨rfl, hb2⟩
        clear cF
        go_wp2_with fail
        refine (c3.out w2).mono ?_
        rintro e w3 ⟨rfl, hb3⟩
        clear c3
        go_wp2_with fail
        go_ret
        have h12 := hb1.trans (hb2.mono hb1.size)
        exact ⟨rfl, h12.trans (hb3.mono h12.size)⟩
      | true =>
        obtain rfl := HA.out hpb hp3
        rw [hp3] at c3
        clear hb hg hcl hs HA HO HB hpb hlt hp3 hs'
        go_enter Try.func16, Try.ntmps16
        go_wp2_with fail
        refine cB.mono ?_
        rintro e w ⟨rfl, rfl⟩
        clear cB
        go_wp2_with fail
        refine cG.mono ?_
        rintro e w1 ⟨rfl, hb1⟩
        clear cG
        go_wp2_with fail
        refine (cF.out w1).mono ?_
        rintro e w2 ⟨rfl, hb2⟩
        clear cF
        go_wp2_with fail
        refine (c3.out w2).mono ?_
        rintro e w3 ⟨rfl, hb3⟩
        clear c3
        go_wp2_with fail
        refine (cA.out w3).mono ?_
        rintro e w4 ⟨rfl, hb4⟩
        clear cA
        go_wp2_with fail
        go_ret
        have h12 := hb1.trans (hb2.mono hb1.size)
        have h13 := h12.trans (hb3.mono h12.size)
        exact ⟨rfl, h13.trans (hb4.mono h13.size)⟩
end Go.Proofs.Ythlainjkpeioeaj
