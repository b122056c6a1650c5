/- The law on DirectiveAt, walked, over impl's contract (its list may be cut off). -/
import Derived.Test.YtonhgejfbieanalTmc
namespace Go.Proofs.Ytonhgejfbieanal
open Go.ChangeShapes Go.WideShapes Go.ChangeAt Go.RowKit
/-- What is asked of impl.DirectiveAt. -/
def ImplDc : Prop := ∀ (s : ByteArray) (p : Int) (w : World) (L : List ByteArray) (P : Nat), s.size ≤ 1048576 → (Lit.int .i64 p).wf = true → dirAt s (cl s.size p) = (L, P) →
    Calls Try.prog 11 #[.string s, .int .i64 p] w fun e w' => ∃ v, e = .returned (.tuple #[v, .int .i64 (P : Int)]) ∧ CutR w' w.heap.size 9 1 v L.length (celS L) ∧ Below w.heap.size w w'
theorem dirGo_len (s : ByteArray) (k e : Nat) (he : endL s k = e) (hk : k ≤ s.size) : ∀ (f p : Nat) (l : List ByteArray), k ≤ p → p ≤ s.size → l.length ≤ p → (dirGo s e f p l).length ≤ s.size
  | 0, p, l, _, h2, h3 => Nat.le_trans h3 h2
  | f + 1, p, l, h1, h2, h3 => by
    rw [dirGo]
    split
    · omega
    · rename_i h
      have hw := word_lt he hk h1 rfl (show wh s p < e by omega)
      have hg := dwh_ge s p
      have hl := wh_lt s p h2
      have hx := fwd_le pNg s (wh s p) hl
      exact dirGo_len s k e he hk f _ _ (by omega) hx (by rw [List.length_append]; show l.length + 1 ≤ _; omega)
set_option maxRecDepth 100000 in
set_option maxHeartbeats 8000000 in
theorem law_directiveAtC (HI : ImplDc) (s : ByteArray) (p : Int) (w0 : s.size ≤ maxLen) (w1 : (Lit.int .i64 p).wf = true) (w : World) :
    Calls Try.prog 4 #[.string s, .int .i64 p] w fun e w' => e = .returned (.bool true) ∧ Below w.heap.size w w' := by
  unfold maxLen at w0
  by_cases hbig : (1048576 : Int) < (s.size : Int)
  · clear w1 HI
    go_enter Try.func4, Try.ntmps4
    go_wp2_with fail
    go_ret
    exact ⟨rfl, Below.refl _ _⟩
  · have hs : s.size ≤ 1048576 := by omega
    obtain ⟨L, P, hr⟩ : ∃ L P, dirAt s (cl s.size p) = (L, P) := ⟨_, _, rfl⟩
    have hlen : L.length ≤ 1048576 := by
      have h := dirGo_len s (cl s.size p) _ rfl (cl_le _ _) (s.size + 1) (cl s.size p) [] (Nat.le_refl _) (cl_le _ _) (Nat.zero_le _)
      unfold dirAt at hr
      injection hr with e1 _
      rw [e1] at h
      omega
    have cS : Calls Try.prog 10 #[.string s, .int .i64 p] w fun e w' => ∃ v, e = .returned (.tuple #[v, .int .i64 (P : Int)]) ∧ CutR w' w.heap.size 9 1 v L.length (celS L) ∧ Below w.heap.size w w' := (spec_directiveAt s p w hs L P hr).mono (by rintro e w1 ⟨v0, rfl, ho1, hb1⟩; exact ⟨v0, rfl, cut_of ho1, hb1⟩)
    have cI : Hid (∀ w', Calls Try.prog 11 #[.string s, .int .i64 p] w' fun e w'' => ∃ v, e = .returned (.tuple #[v, .int .i64 (P : Int)]) ∧ CutR w'' w'.heap.size 9 1 v L.length (celS L) ∧ Below w'.heap.size w' w'') := fun w' => HI s p w' L P hs w1 hr
    have HLN : Hid (L.length ≤ 1048576) := hlen
    clear w1 hs hr HI hlen
    go_enter Try.func4, Try.ntmps4
    go_wp2_with fail
    refine cS.mono ?_
    rintro e w1 ⟨v0, rfl, ho1, hb1⟩
    obtain ⟨a0, n0, rfl⟩ := cut_form ho1
    have HO1 : Hid (CutR w1 w.heap.size 9 1 (.slice a0 L.length n0) L.length (celS L)) := ho1
    have HB1 : Hid (Below w.heap.size w w1) := hb1
    clear cS ho1 hb1
    go_wp2_with fail
    refine (cI.out w1).mono ?_
    rintro e w2 ⟨v1, rfl, ho2, hb2⟩
    obtain ⟨a1, n1, rfl⟩ := cut_form ho2
    have HG2 : Hid (CutR w2 w1.heap.size 9 1 (.slice a1 L.length n1) L.length (celS L)) := ho2
    have HO2 : Hid (CutR w2 w.heap.size 9 1 (.slice a0 L.length n0) L.length (celS L)) := cut_below HO1.out hb2
    have HB2 : Hid (Below w.heap.size w w2) := HB1.out.trans (hb2.mono HB1.out.size)
    have HA0 : Hid (∀ b, (Value.slice a0 L.length n0).ownBlock = some b → b < w1.heap.size) := fun b hb => (HO1.out.lt b hb).2
    have HA1 : Hid (∀ b, (Value.slice a1 L.length n1).ownBlock = some b → w1.heap.size ≤ b) := fun b hb => (ho2.lt b hb).1
    have HZ1 : Hid (w.heap.size ≤ w1.heap.size) := HB1.out.size
    clear ho2 hb2 HO1 HB1
    go_wp2_with fail
    refine (eqSs_ w2 _ _ L (slS_cut HG2.out) (slS_cut HO2.out) (by have := HLN.out; omega)).mono ?_
    rintro e w3 ⟨rfl, hb3⟩
    have HG3 : Hid (CutR w3 w1.heap.size 9 1 (.slice a1 L.length n1) L.length (celS L)) := cut_below HG2.out hb3
    have HO3 : Hid (CutR w3 w.heap.size 9 1 (.slice a0 L.length n0) L.length (celS L)) := cut_below HO2.out hb3
    have HB3 : Hid (Below w.heap.size w w3) := HB2.out.trans (hb3.mono HB2.out.size)
    clear hb3 HG2 HO2 HB2
    go_wp2_with fail
    refine (markSc_any w3 w1.heap.size _ L 1 HG3.out (by have := HLN.out; omega) (by decide) (by decide)).mono ?_
    rintro e w4 ⟨rfl, ho4, hg4⟩
    have HG4 : Hid (CutR w4 w1.heap.size 9 1 (.slice a1 L.length n1) L.length (celS (mkSs 1 L.length))) := ho4
    have HO4 : Hid (CutR w4 w.heap.size 9 1 (.slice a0 L.length n0) L.length (celS L)) := far_cut HO3.out HA0.out hg4 HA1.out
    have HB4 : Hid (Below w.heap.size w w4) := HB3.out.trans ⟨hg4.os, hg4.tape, hg4.output, hg4.size, fun k hk => hg4.block k (by have := HB3.out.size; omega) (fun e => by have h1 := HA1.out k e.symm; have h2 := HZ1.out; omega)⟩
    clear ho4 hg4 HG3 HO3 HB3
    have hm8 : ((1 + L.length : Nat) : Int) ≤ 1048577 := by have := HLN.out; omega
    have hm0 : (1 : Int) ≤ ((1 + L.length : Nat) : Int) := by omega
    generalize hm : ((1 + L.length : Nat) : Int) = M at *
    have hM2 : ¬ M < 0 := by omega
    have hM3 : (M != M) = false := by simp
    have HM : Hid (((1 + L.length : Nat) : Int) = M) := hm
    clear hm
    have cH : Hid (∀ w', CutR w' w1.heap.size 9 1 (.slice a1 L.length n1) L.length (celS (mkSs 1 L.length)) → Calls Try.prog 14 #[.slice a1 L.length n1, .int .i64 1] w' fun e w'' => e = .returned (.int .i64 M) ∧ Below w'.heap.size w' w'') := fun w' h => by
      have := heldSc_any w' _ L.length 1 _ h (by have := HLN.out; omega) (by decide) (by decide)
      rw [HM.out] at this
      exact this
    go_wp2_with fail
    refine (cH.out w4 HG4.out).mono ?_
    rintro e w5 ⟨rfl, hb5⟩
    have HG5 : Hid (CutR w5 w1.heap.size 9 1 (.slice a1 L.length n1) L.length (celS (mkSs 1 L.length))) := cut_below HG4.out hb5
    have HO5 : Hid (CutR w5 w.heap.size 9 1 (.slice a0 L.length n0) L.length (celS L)) := cut_below HO4.out hb5
    have HB5 : Hid (Below w.heap.size w w5) := HB4.out.trans (hb5.mono HB4.out.size)
    clear hb5 HG4 HO4 HB4
    go_wp2_with fail
    refine (cI.out w5).mono ?_
    rintro e w6 ⟨v2, rfl, ho6, hb6⟩
    obtain ⟨a2, n2, rfl⟩ := cut_form ho6
    have HH6 : Hid (CutR w6 w5.heap.size 9 1 (.slice a2 L.length n2) L.length (celS L)) := ho6
    have HG6 : Hid (CutR w6 w1.heap.size 9 1 (.slice a1 L.length n1) L.length (celS (mkSs 1 L.length))) := cut_below HG5.out hb6
    have HO6 : Hid (CutR w6 w.heap.size 9 1 (.slice a0 L.length n0) L.length (celS L)) := cut_below HO5.out hb6
    have HB6 : Hid (Below w.heap.size w w6) := HB5.out.trans (hb6.mono HB5.out.size)
    clear ho6 hb6 HG5 HO5 HB5 cI
    go_wp2_with fail
    refine (eqSs_ w6 _ _ L (slS_cut HH6.out) (slS_cut HO6.out) (by have := HLN.out; omega)).mono ?_
    rintro e w7 ⟨rfl, hb7⟩
    have HG7 : Hid (CutR w7 w1.heap.size 9 1 (.slice a1 L.length n1) L.length (celS (mkSs 1 L.length))) := cut_below HG6.out hb7
    have HB7 : Hid (Below w.heap.size w w7) := HB6.out.trans (hb7.mono HB6.out.size)
    clear hb7 HG6 HO6 HB6 HH6
    go_wp2_with fail
    refine (cH.out w7 HG7.out).mono ?_
    rintro e w8 ⟨rfl, hb8⟩
    have HB8 : Hid (Below w.heap.size w w8) := HB7.out.trans (hb8.mono HB7.out.size)
    clear hb8 HG7 HB7 cH
    go_wp2_with fail
    go_ret
    exact ⟨rfl, HB8.out⟩
end Go.Proofs.Ytonhgejfbieanal
