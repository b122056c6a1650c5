/- Several texts in one: SevE Sev Pnt Rwi. -/
import Derived.Test.YtmbbmibkjnlkkaaZpc
import Derived.Test.YtmbbmibkjnlkkaaSevA
import Derived.Test.YtmbbmibkjnlkkaaSevB
import Derived.Test.YtmbbmibkjnlkkaaSevC
import Derived.Test.YtmbbmibkjnlkkaaSevD
import Derived.Test.YtmbbmibkjnlkkaaZpb
/- The contract of spec.EventOk: the kinds 6, 10. -/
namespace Go.Proofs.Ytmbbmibkjnlkkaa
open Go.ChangeShapes Go.WideShapes Go.ChangeAt Go.RowKit
set_option linter.unusedSimpArgs false in
set_option maxHeartbeats 16000000 in
theorem ev_6 (style : Int) (flag : Bool) (text anchor tag : ByteArray) (at_ code : Int) (w : World) (hsz : text.size ≤ mx ∧ anchor.size ≤ mx ∧ tag.size ≤ mx) (b : Bool) (hb : evOk ⟨6, style, flag, text, anchor, tag, at_, code⟩ = b) :
    Calls Try.prog 29 #[.agg (Ev.row ⟨6, style, flag, text, anchor, tag, at_, code⟩)] w fun e w' => e = .returned (.bool b) ∧ Below w.heap.size w w' := by
  have cT : Hid (∀ w, Calls Try.prog 42 #[.string text] w fun e w' => e = .returned (.bool (nmOk text)) ∧ w' = w) := fun w => name_any text w hsz.1 _ rfl
  have cA : Hid (∀ w, Calls Try.prog 42 #[.string anchor] w fun e w' => e = .returned (.bool (nmOk anchor)) ∧ w' = w) := fun w => name_any anchor w hsz.2.1 _ rfl
  have hz : tag.size < 9223372036854775807 := by have := hsz.2.2; unfold mx at this; omega
  unfold Ev.row
  by_cases hs1 : style < 0
  ·
    obtain rfl : b = false := by rw [← hb]; simp [evOk, evBad, evRest, loK, hiK, nodeK, hs1]
    clear hb hsz cT cA
    go_enter Try.func29, Try.ntmps29
    go_wp2_with fail
    go_ret
    exact ⟨rfl, (Below.refl _ w).alloc (Nat.le_refl _) _⟩
  · by_cases hs2 : 0 < style
    ·
      obtain rfl : b = false := by rw [← hb]; simp [evOk, evBad, evRest, loK, hiK, nodeK, hs1, hs2]
      clear hb hsz cT cA
      go_enter Try.func29, Try.ntmps29
      go_wp2_with fail
      go_ret
      exact ⟨rfl, (Below.refl _ w).alloc (Nat.le_refl _) _⟩
    ·
      cases flag with
      | true =>
        obtain rfl : b = false := by rw [← hb]; simp [evOk, evBad, evRest, loK, hiK, nodeK, hs1, hs2]
        clear hb hsz cT cA
        go_enter Try.func29, Try.ntmps29
        go_wp2_with fail
        go_ret
        exact ⟨rfl, (Below.refl _ w).alloc (Nat.le_refl _) _⟩
      | false =>
        cases ht : noB text with
        | false =>
          have ht1 : (text.toList == []) = false := ht
          have ht2 : (text.toList != []) = true := by show (!(text.toList == [])) = _; rw [ht1]; rfl
          cases ha : noB anchor with
          | false =>
            have ha1 : (anchor.toList == []) = false := ha
            have ha2 : (anchor.toList != []) = true := by show (!(anchor.toList == [])) = _; rw [ha1]; rfl
            obtain rfl : b = false := by rw [← hb]; simp [evOk, evBad, evRest, loK, hiK, nodeK, hs1, hs2, ht, ha]
            clear hb hsz ht ha cT cA
            go_enter Try.func29, Try.ntmps29
            go_wp2_with fail
            go_ret
            exact ⟨rfl, (Below.refl _ w).alloc (Nat.le_refl _) _⟩
          | true =>
            have ha1 : (anchor.toList == []) = true := ha
            have ha2 : (anchor.toList != []) = false := by show (!(anchor.toList == [])) = _; rw [ha1]; rfl
            cases hg : noB tag with
            | false =>
              have hg1 : (tag.toList == []) = false := hg
              have hg2 : (tag.toList != []) = true := by show (!(tag.toList == [])) = _; rw [hg1]; rfl
              obtain rfl : b = false := by rw [← hb]; simp [evOk, evBad, evRest, loK, hiK, nodeK, hs1, hs2, ht, ha, hg]
              clear hb hsz ht ha hg cT cA
              go_enter Try.func29, Try.ntmps29
              go_wp2_with fail
              go_ret
              exact ⟨rfl, (Below.refl _ w).alloc (Nat.le_refl _) _⟩
            | true =>
              have hg1 : (tag.toList == []) = true := hg
              have hg2 : (tag.toList != []) = false := by show (!(tag.toList == [])) = _; rw [hg1]; rfl
              cases hn : nmOk text with
              | false =>
                rw [hn] at cT
                obtain rfl : b = false := by rw [← hb]; simp [evOk, evBad, evRest, loK, hiK, nodeK, hs1, hs2, ht, ha, hg, hn]
                clear hb hsz ht ha hg hn cA
                go_enter Try.func29, Try.ntmps29
                go_wp2_with fail
                refine (cT.out _).mono ?_
                rintro e w1 ⟨rfl, rfl⟩
                clear cT
                go_wp2_with fail
                go_ret
                exact ⟨rfl, (Below.refl _ w).alloc (Nat.le_refl _) _⟩
              | true =>
                rw [hn] at cT
                cases hm : nmOk anchor with
                | false =>
                  rw [hm] at cA
                  obtain rfl : b = false := by rw [← hb]; simp [evOk, evBad, evRest, loK, hiK, nodeK, hs1, hs2, ht, ha, hg, hn, hm]
                  clear hb hsz ht ha hg hn hm
                  go_enter Try.func29, Try.ntmps29
                  go_wp2_with fail
                  refine (cT.out _).mono ?_
                  rintro e w1 ⟨rfl, rfl⟩
                  clear cT
                  go_wp2_with fail
                  refine (cA.out _).mono ?_
                  rintro e w1 ⟨rfl, rfl⟩
                  clear cA
                  go_wp2_with fail
                  go_ret
                  exact ⟨rfl, (Below.refl _ w).alloc (Nat.le_refl _) _⟩
                | true =>
                  rw [hm] at cA
                  by_cases htg : (120 : Int) < (tag.size : Int)
                  · have htn : ¬ tag.size ≤ 120 := by omega
                    obtain rfl : b = false := by rw [← hb]; simp [evOk, evBad, evRest, loK, hiK, nodeK, hs1, hs2, ht, ha, hg, hn, hm, htn]
                    clear hb hsz ht ha hg hn hm
                    go_enter Try.func29, Try.ntmps29
                    go_wp2_with fail
                    refine (cT.out _).mono ?_
                    rintro e w1 ⟨rfl, rfl⟩
                    clear cT
                    go_wp2_with fail
                    refine (cA.out _).mono ?_
                    rintro e w1 ⟨rfl, rfl⟩
                    clear cA
                    go_wp2_with fail
                    go_ret
                    exact ⟨rfl, (Below.refl _ w).alloc (Nat.le_refl _) _⟩
                  · have htn : tag.size ≤ 120 := by omega
                    by_cases hc : code = 0
                    · have hc1 : (code == 0) = true := by rw [beq_iff_eq]; exact hc
                      by_cases hat : at_ = 0
                      · have hat1 : (at_ == 0) = true := by rw [beq_iff_eq]; exact hat
                        obtain rfl : b = true := by rw [← hb]; simp [evOk, evBad, evRest, loK, hiK, nodeK, hs1, hs2, ht, ha, hg, hn, hm, htn, hc, hat]
                        clear hb hsz ht ha hg hn hm
                        go_enter Try.func29, Try.ntmps29
                        go_wp2_with fail
                        refine (cT.out _).mono ?_
                        rintro e w1 ⟨rfl, rfl⟩
                        clear cT
                        go_wp2_with fail
                        refine (cA.out _).mono ?_
                        rintro e w1 ⟨rfl, rfl⟩
                        clear cA
                        go_wp2_with fail
                        go_ret
                        exact ⟨rfl, (Below.refl _ w).alloc (Nat.le_refl _) _⟩
                      · have hat1 : (at_ == 0) = false := by rw [beq_eq_false_iff_ne]; exact hat
                        obtain rfl : b = false := by rw [← hb]; simp [evOk, evBad, evRest, loK, hiK, nodeK, hs1, hs2, ht, ha, hg, hn, hm, htn, hc, hat]
                        clear hb hsz ht ha hg hn hm
                        go_enter Try.func29, Try.ntmps29
                        go_wp2_with fail
                        refine (cT.out _).mono ?_
                        rintro e w1 ⟨rfl, rfl⟩
                        clear cT
                        go_wp2_with fail
                        refine (cA.out _).mono ?_
                        rintro e w1 ⟨rfl, rfl⟩
                        clear cA
                        go_wp2_with fail
                        go_ret
                        exact ⟨rfl, (Below.refl _ w).alloc (Nat.le_refl _) _⟩
                    · have hc1 : (code == 0) = false := by rw [beq_eq_false_iff_ne]; exact hc
                      obtain rfl : b = false := by rw [← hb]; simp [evOk, evBad, evRest, loK, hiK, nodeK, hs1, hs2, ht, ha, hg, hn, hm, htn, hc]
                      clear hb hsz ht ha hg hn hm
                      go_enter Try.func29, Try.ntmps29
                      go_wp2_with fail
                      refine (cT.out _).mono ?_
                      rintro e w1 ⟨rfl, rfl⟩
                      clear cT
                      go_wp2_with fail
                      refine (cA.out _).mono ?_
                      rintro e w1 ⟨rfl, rfl⟩
                      clear cA
                      go_wp2_with fail
                      go_ret
                      exact ⟨rfl, (Below.refl _ w).alloc (Nat.le_refl _) _⟩
        | true =>
          have ht1 : (text.toList == []) = true := ht
          have ht2 : (text.toList != []) = false := by show (!(text.toList == [])) = _; rw [ht1]; rfl
          cases ha : noB anchor with
          | false =>
            have ha1 : (anchor.toList == []) = false := ha
            have ha2 : (anchor.toList != []) = true := by show (!(anchor.toList == [])) = _; rw [ha1]; rfl
            obtain rfl : b = false := by rw [← hb]; simp [evOk, evBad, evRest, loK, hiK, nodeK, hs1, hs2, ht, ha]
            clear hb hsz ht ha cT cA
            go_enter Try.func29, Try.ntmps29
            go_wp2_with fail
            go_ret
            exact ⟨rfl, (Below.refl _ w).alloc (Nat.le_refl _) _⟩
          | true =>
            have ha1 : (anchor.toList == []) = true := ha
            have ha2 : (anchor.toList != []) = false := by show (!(anchor.toList == [])) = _; rw [ha1]; rfl
            cases hg : noB tag with
            | false =>
              have hg1 : (tag.toList == []) = false := hg
              have hg2 : (tag.toList != []) = true := by show (!(tag.toList == [])) = _; rw [hg1]; rfl
              obtain rfl : b = false := by rw [← hb]; simp [evOk, evBad, evRest, loK, hiK, nodeK, hs1, hs2, ht, ha, hg]
              clear hb hsz ht ha hg cT cA
              go_enter Try.func29, Try.ntmps29
              go_wp2_with fail
              go_ret
              exact ⟨rfl, (Below.refl _ w).alloc (Nat.le_refl _) _⟩
            | true =>
              have hg1 : (tag.toList == []) = true := hg
              have hg2 : (tag.toList != []) = false := by show (!(tag.toList == [])) = _; rw [hg1]; rfl
              obtain rfl : b = false := by rw [← hb]; simp [evOk, evBad, evRest, loK, hiK, nodeK, hs1, hs2, ht, ha, hg]
              clear hb hsz ht ha hg cT cA
              go_enter Try.func29, Try.ntmps29
              go_wp2_with fail
              go_ret
              exact ⟨rfl, (Below.refl _ w).alloc (Nat.le_refl _) _⟩
set_option linter.unusedSimpArgs false in
set_option maxHeartbeats 16000000 in
theorem ev_10 (style : Int) (flag : Bool) (text anchor tag : ByteArray) (at_ code : Int) (w : World) (hsz : text.size ≤ mx ∧ anchor.size ≤ mx ∧ tag.size ≤ mx) (b : Bool) (hb : evOk ⟨10, style, flag, text, anchor, tag, at_, code⟩ = b) :
    Calls Try.prog 29 #[.agg (Ev.row ⟨10, style, flag, text, anchor, tag, at_, code⟩)] w fun e w' => e = .returned (.bool b) ∧ Below w.heap.size w w' := by
  have cT : Hid (∀ w, Calls Try.prog 42 #[.string text] w fun e w' => e = .returned (.bool (nmOk text)) ∧ w' = w) := fun w => name_any text w hsz.1 _ rfl
  have cA : Hid (∀ w, Calls Try.prog 42 #[.string anchor] w fun e w' => e = .returned (.bool (nmOk anchor)) ∧ w' = w) := fun w => name_any anchor w hsz.2.1 _ rfl
  have hz : tag.size < 9223372036854775807 := by have := hsz.2.2; unfold mx at this; omega
  unfold Ev.row
  by_cases hs1 : style < 0
  ·
    obtain rfl : b = false := by rw [← hb]; simp [evOk, evBad, evRest, loK, hiK, nodeK, hs1]
    clear hb hsz cT cA
    go_enter Try.func29, Try.ntmps29
    go_wp2_with fail
    go_ret
    exact ⟨rfl, (Below.refl _ w).alloc (Nat.le_refl _) _⟩
  · by_cases hs2 : 0 < style
    ·
      obtain rfl : b = false := by rw [← hb]; simp [evOk, evBad, evRest, loK, hiK, nodeK, hs1, hs2]
      clear hb hsz cT cA
      go_enter Try.func29, Try.ntmps29
      go_wp2_with fail
      go_ret
      exact ⟨rfl, (Below.refl _ w).alloc (Nat.le_refl _) _⟩
    ·
      cases flag with
      | true =>
        obtain rfl : b = false := by rw [← hb]; simp [evOk, evBad, evRest, loK, hiK, nodeK, hs1, hs2]
        clear hb hsz cT cA
        go_enter Try.func29, Try.ntmps29
        go_wp2_with fail
        go_ret
        exact ⟨rfl, (Below.refl _ w).alloc (Nat.le_refl _) _⟩
      | false =>
        cases ht : noB text with
        | false =>
          have ht1 : (text.toList == []) = false := ht
          have ht2 : (text.toList != []) = true := by show (!(text.toList == [])) = _; rw [ht1]; rfl
          obtain rfl : b = false := by rw [← hb]; simp [evOk, evBad, evRest, loK, hiK, nodeK, hs1, hs2, ht]
          clear hb hsz ht cT cA
          go_enter Try.func29, Try.ntmps29
          go_wp2_with fail
          go_ret
          exact ⟨rfl, (Below.refl _ w).alloc (Nat.le_refl _) _⟩
        | true =>
          have ht1 : (text.toList == []) = true := ht
          have ht2 : (text.toList != []) = false := by show (!(text.toList == [])) = _; rw [ht1]; rfl
          cases ha : noB anchor with
          | false =>
            have ha1 : (anchor.toList == []) = false := ha
            have ha2 : (anchor.toList != []) = true := by show (!(anchor.toList == [])) = _; rw [ha1]; rfl
            obtain rfl : b = false := by rw [← hb]; simp [evOk, evBad, evRest, loK, hiK, nodeK, hs1, hs2, ht, ha]
            clear hb hsz ht ha cT cA
            go_enter Try.func29, Try.ntmps29
            go_wp2_with fail
            go_ret
            exact ⟨rfl, (Below.refl _ w).alloc (Nat.le_refl _) _⟩
          | true =>
            have ha1 : (anchor.toList == []) = true := ha
            have ha2 : (anchor.toList != []) = false := by show (!(anchor.toList == [])) = _; rw [ha1]; rfl
            cases hg : noB tag with
            | false =>
              have hg1 : (tag.toList == []) = false := hg
              have hg2 : (tag.toList != []) = true := by show (!(tag.toList == [])) = _; rw [hg1]; rfl
              obtain rfl : b = false := by rw [← hb]; simp [evOk, evBad, evRest, loK, hiK, nodeK, hs1, hs2, ht, ha, hg]
              clear hb hsz ht ha hg cT cA
              go_enter Try.func29, Try.ntmps29
              go_wp2_with fail
              go_ret
              exact ⟨rfl, (Below.refl _ w).alloc (Nat.le_refl _) _⟩
            | true =>
              have hg1 : (tag.toList == []) = true := hg
              have hg2 : (tag.toList != []) = false := by show (!(tag.toList == [])) = _; rw [hg1]; rfl
              by_cases k1 : 1 ≤ code
              · by_cases k2 : code ≤ 99
                · by_cases k3 : 0 ≤ at_
                  ·
                    obtain rfl : b = true := by rw [← hb]; simp [evOk, evBad, evRest, loK, hiK, nodeK, hs1, hs2, ht, ha, hg, k1, k2, k3]
                    clear hb hsz ht ha hg cT cA
                    go_enter Try.func29, Try.ntmps29
                    go_wp2_with fail
                    go_ret
                    exact ⟨rfl, (Below.refl _ w).alloc (Nat.le_refl _) _⟩
                  ·
                    obtain rfl : b = false := by rw [← hb]; simp [evOk, evBad, evRest, loK, hiK, nodeK, hs1, hs2, ht, ha, hg, k1, k2, k3]
                    clear hb hsz ht ha hg cT cA
                    go_enter Try.func29, Try.ntmps29
                    go_wp2_with fail
                    go_ret
                    exact ⟨rfl, (Below.refl _ w).alloc (Nat.le_refl _) _⟩
                ·
                  obtain rfl : b = false := by rw [← hb]; simp [evOk, evBad, evRest, loK, hiK, nodeK, hs1, hs2, ht, ha, hg, k1, k2]
                  clear hb hsz ht ha hg cT cA
                  go_enter Try.func29, Try.ntmps29
                  go_wp2_with fail
                  go_ret
                  exact ⟨rfl, (Below.refl _ w).alloc (Nat.le_refl _) _⟩
              ·
                obtain rfl : b = false := by rw [← hb]; simp [evOk, evBad, evRest, loK, hiK, nodeK, hs1, hs2, ht, ha, hg, k1]
                clear hb hsz ht ha hg cT cA
                go_enter Try.func29, Try.ntmps29
                go_wp2_with fail
                go_ret
                exact ⟨rfl, (Below.refl _ w).alloc (Nat.le_refl _) _⟩
end Go.Proofs.Ytmbbmibkjnlkkaa
/- The contract of spec.EventOk. -/
namespace Go.Proofs.Ytmbbmibkjnlkkaa
open Go.ChangeShapes Go.WideShapes Go.ChangeAt Go.RowKit
set_option maxHeartbeats 4000000 in
theorem ev_out (kind style : Int) (flag : Bool) (text anchor tag : ByteArray) (at_ code : Int) (w : World) (hk : kind < 1 ∨ 10 < kind) :
    Calls Try.prog 29 #[.agg (Ev.row ⟨kind, style, flag, text, anchor, tag, at_, code⟩)] w fun e w' => e = .returned (.bool false) ∧ Below w.heap.size w w' := by
  have h3 : (kind == 3) = false := by rw [beq_eq_false_iff_ne]; omega
  have h4 : (kind == 4) = false := by rw [beq_eq_false_iff_ne]; omega
  have h5 : (kind == 5) = false := by rw [beq_eq_false_iff_ne]; omega
  unfold Ev.row
  rcases hk with h | h
  · go_enter Try.func29, Try.ntmps29
    go_wp2_with fail
    go_ret
    exact ⟨rfl, (Below.refl _ w).alloc (Nat.le_refl _) _⟩
  · have h1 : ¬ kind < 1 := by omega
    go_enter Try.func29, Try.ntmps29
    go_wp2_with fail
    go_ret
    exact ⟨rfl, (Below.refl _ w).alloc (Nat.le_refl _) _⟩
theorem spec_eventOk (e : Ev) (w : World) (hsz : e.text.size ≤ mx ∧ e.anchor.size ≤ mx ∧ e.tag.size ≤ mx) (b : Bool) (hb : evOk e = b) :
    Calls Try.prog 29 #[.agg e.row] w fun r w' => r = .returned (.bool b) ∧ Below w.heap.size w w' := by
  obtain ⟨kind, style, flag, text, anchor, tag, at_, code⟩ := e
  by_cases hk : kind < 1 ∨ 10 < kind
  · obtain rfl : false = b := by
      rw [← hb]
      unfold evOk
      rw [if_pos (by rcases hk with h | h; exact .inl h; exact .inr (.inl h))]
    exact ev_out kind style flag text anchor tag at_ code w hk
  · rcases (show kind = 1 ∨ kind = 2 ∨ kind = 3 ∨ kind = 4 ∨ kind = 5 ∨ kind = 6 ∨ kind = 7 ∨ kind = 8 ∨ kind = 9 ∨ kind = 10 by omega) with rfl | rfl | rfl | rfl | rfl | rfl | rfl | rfl | rfl | rfl
    · exact ev_1 style flag text anchor tag at_ code w hsz b hb
    · exact ev_2 style flag text anchor tag at_ code w hsz b hb
    · exact ev_3 style flag text anchor tag at_ code w hsz b hb
    · exact ev_4 style flag text anchor tag at_ code w hsz b hb
    · exact ev_5 style flag text anchor tag at_ code w hsz b hb
    · exact ev_6 style flag text anchor tag at_ code w hsz b hb
    · exact ev_7 style flag text anchor tag at_ code w hsz b hb
    · exact ev_8 style flag text anchor tag at_ code w hsz b hb
    · exact ev_9 style flag text anchor tag at_ code w hsz b hb
    · exact ev_10 style flag text anchor tag at_ code w hsz b hb
end Go.Proofs.Ytmbbmibkjnlkkaa
/- What Nested answers, as a plain function. -/
namespace Go.Proofs.Ytmbbmibkjnlkkaa
/-- One node more in what is open: a list (-1) stays as it is. -/
def stI (x : Int) : Int := if 0 ≤ x then x + 1 else x
def pushK (k : Int) (st : List Int) : List Int := if k = 3 then (-1) :: st else if k = 4 then 0 :: st else st
def nst : Bool → Int → List Int → List Ev → Bool
  | _, _, _, [] => false
  | first, doc, st, e :: t =>
    if evOk e = false then false
    else if (first != (e.kind == 1)) = true then false
    else if e.kind = 10 then t.isEmpty
    else if e.kind = 2 then (if doc = 0 then nst false 1 st t else false)
    else if 3 ≤ e.kind ∧ e.kind ≤ 6 then
      (if st = [] then (if doc = 1 then nst false 2 (pushK e.kind []) t else false) else nst false doc (pushK e.kind (stI (st.headD 0) :: st.tail)) t)
    else if e.kind = 7 then
      (if st = [] then false else if 0 < st.headD 0 ∧ st.headD 0 % 2 = 1 then false else nst false doc st.tail t)
    else if e.kind = 8 then (if doc = 2 ∧ st = [] then nst false 0 [] t else false)
    else if e.kind = 9 then t.isEmpty && decide (doc = 0)
    else nst false doc st t
def nested (es : List Ev) : Bool := nst true 0 [] es
section
variable {first : Bool} {doc : Int} {st : List Int} {e : Ev} {t : List Ev} {b : Bool}
theorem nst_bad (h : nst first doc st (e :: t) = b) (h1 : evOk e = false) : false = b := by rw [nst, if_pos h1] at h; exact h
theorem nst_first (h : nst first doc st (e :: t) = b) (h1 : evOk e = true) (h2 : (first != (e.kind == 1)) = true) : false = b := by rw [nst, if_neg (show ¬ evOk e = false by rw [h1]; simp), if_pos h2] at h; exact h
theorem nst_in (h : nst first doc st (e :: t) = b) (h1 : evOk e = true) (h2 : (first != (e.kind == 1)) = false) : (if e.kind = 10 then t.isEmpty
    else if e.kind = 2 then (if doc = 0 then nst false 1 st t else false)
    else if 3 ≤ e.kind ∧ e.kind ≤ 6 then
      (if st = [] then (if doc = 1 then nst false 2 (pushK e.kind []) t else false) else nst false doc (pushK e.kind (stI (st.headD 0) :: st.tail)) t)
    else if e.kind = 7 then
      (if st = [] then false else if 0 < st.headD 0 ∧ st.headD 0 % 2 = 1 then false else nst false doc st.tail t)
    else if e.kind = 8 then (if doc = 2 ∧ st = [] then nst false 0 [] t else false)
    else if e.kind = 9 then t.isEmpty && decide (doc = 0)
    else nst false doc st t) = b := by
  rw [nst, if_neg (show ¬ evOk e = false by rw [h1]; simp), if_neg (show ¬ (first != (e.kind == 1)) = true by rw [h2]; simp)] at h
  exact h
end
theorem evOk_kind {e : Ev} (h : evOk e = true) : 1 ≤ e.kind ∧ e.kind ≤ 10 := by
  unfold evOk at h
  split at h
  · cases h
  · rename_i h1
    exact ⟨by omega, by omega⟩
end Go.Proofs.Ytmbbmibkjnlkkaa
/- The top of a row that the call owns: read, written, taken off, and one more put on it. -/
namespace Go.Proofs.Ytmbbmibkjnlkkaa
open Go.RowKit
theorem row_top {w : World} {lo : Nat} {e : TypeId} {v : Value} {n : Nat} {ys : List Value} {u : Value} (h : w.ownsRow lo e 1 v n (ys ++ [u])) :
    ∃ g c, v = .slice (some ⟨g, 0, none⟩) (ys.length + 1) c ∧ n = ys.length + 1 ∧ lo ≤ g ∧ g < w.heap.size ∧ n ≤ c ∧ w.cell? ⟨g, ys.length, none⟩ = some u ∧ w.frozen? ⟨g, ys.length, none⟩ = false ∧
      (∀ u', (w.setCell ⟨g, ys.length, none⟩ u').ownsRow lo e 1 v n (ys ++ [u'])) ∧ w.ownsRow lo e 1 (.slice (some ⟨g, 0, none⟩) ys.length c) ys.length ys := by
  have hl := h.1
  simp at hl
  rcases h.2 with ⟨_, hn⟩ | ⟨g, cap, cur, rfl, hb, hg, hn, hm, hs, ht⟩
  · omega
  · have hc : cur[ys.length]? = some u := by
      have h1 : (cur.toList.take (n * 1))[ys.length]? = some u := by rw [ht]; simp
      rw [List.getElem?_take, if_pos (by omega)] at h1
      simpa using h1
    have hsz : cur.size = cap := by omega
    refine ⟨g, cap, by rw [← hl], hl.symm, hb, (Array.getElem?_eq_some_iff.1 hg).1, hn, ?_, ?_, fun u' => ?_, ?_⟩
    · simp [World.cell?, hg, hc]
    · simp [World.frozen?, hg]
    · refine ⟨by simp; omega, .inr ⟨g, cap, cur.setIfInBounds ys.length u', rfl, hb, ?_, hn, hm, by simp; omega, ?_⟩⟩
      · simp [World.setCell, Array.getElem?_modify, hg]
      · apply List.ext_getElem?
        intro j
        have h2 : (cur.toList.take (n * 1))[j]? = (ys ++ [u])[j]? := by rw [ht]
        rw [List.getElem?_take] at h2 ⊢
        by_cases hj : j < n * 1
        · rw [if_pos hj] at h2 ⊢
          rw [Array.getElem?_toList, Array.getElem?_setIfInBounds]
          rw [Array.getElem?_toList] at h2
          by_cases hjl : ys.length = j
          · rw [if_pos hjl, if_pos (by omega), List.getElem?_append_right (by omega), ← hjl]
            simp
          · rw [if_neg hjl, h2, List.getElem?_append_left (by omega), List.getElem?_append_left (by omega)]
        · rw [if_neg hj, List.getElem?_eq_none (by simp; omega)]
    · refine ⟨by omega, .inr ⟨g, cap, cur, rfl, hb, hg, by omega, hm, hs, ?_⟩⟩
      have h3 : cur.toList.take (ys.length * 1) = (cur.toList.take (n * 1)).take ys.length := by
        rw [List.take_take]
        congr 1
        omega
      rw [h3, ht]
      simp
/-- A row with nothing in it. -/
theorem row_none {w : World} {lo : Nat} {e : TypeId} {v : Value} {n : Nat} (h : w.ownsRow lo e 1 v n []) : n = 0 ∧ ∃ a c, v = .slice a 0 c := by
  have hl := h.1
  simp at hl
  subst hl
  refine ⟨rfl, ?_⟩
  rcases h.2 with ⟨rfl, _⟩ | ⟨g, cap, cur, rfl, _⟩
  · exact ⟨_, _, rfl⟩
  · exact ⟨_, _, rfl⟩
/-- All that was there stays. -/
theorem row_stays {w w' : World} {lo : Nat} {e : TypeId} {sz : Nat} {v : Value} {n : Nat} {xs : List Value} (h : w.ownsRow lo e sz v n xs) (hb : Below w.heap.size w w') : w'.ownsRow lo e sz v n xs :=
  row_same h (fun k _ hk => hb.block k hk)
end Go.Proofs.Ytmbbmibkjnlkkaa
