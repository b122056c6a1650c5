/- Several texts in one: SevE Sev Tez Oev Lev. -/
import Derived.Test.YtkdlakcmhdiojaaZqao
import Derived.Test.YtkdlakcmhdiojaaSevB
import Derived.Test.YtkdlakcmhdiojaaSevC
import Derived.Test.YtkdlakcmhdiojaaSevD
import Derived.Test.YtkdlakcmhdiojaaZqab
import Derived.WalkLawsBesides
import Derived.WalkSpells
import Derived.WalkMore
import Derived.Handy
import Derived.Laws.ResultCell
import Derived.Test.YtkdlakcmhdiojaaProg
import Derived.OpenShut
import Derived.ShutString
import Derived.Deep.SlicePairs
import Derived.Lib.SmallJoins
/- The contract of spec.EventOk: the kinds 6, 10. -/
namespace Go.Proofs.Ytkdlakcmhdiojaa
open Go.ChangeShapes Go.WideShapes Go.ChangeAt Go.RowKit
set_option linter.unusedSimpArgs false in
set_option maxHeartbeats 16000000 in
theorem ev_6 (style : Int) (flag : Bool) (text anchor tag : ByteArray) (at_ code : Int) (w : World) (hsz : text.size ≤ mx ∧ anchor.size ≤ mx ∧ tag.size ≤ mx) (b : Bool) (hb : evOk ⟨6, style, flag, text, anchor, tag, at_, code⟩ = b) :
    Calls Try.prog 56 #[.agg (Ev.row ⟨6, style, flag, text, anchor, tag, at_, code⟩)] w fun e w' => e = .returned (.bool b) ∧ Below w.heap.size w w' := by
  have cT : Hid (∀ w, Calls Try.prog 63 #[.string text] w fun e w' => e = .returned (.bool (nmOk text)) ∧ w' = w) := fun w => name_any text w hsz.1 _ rfl
  have cA : Hid (∀ w, Calls Try.prog 63 #[.string anchor] w fun e w' => e = .returned (.bool (nmOk anchor)) ∧ w' = w) := fun w => name_any anchor w hsz.2.1 _ rfl
  have hz : tag.size < 9223372036854775807 := by have := hsz.2.2; unfold mx at this; omega
  unfold Ev.row
  by_cases hs1 : style < 0
  ·
    obtain rfl : b = false := by rw [← hb]; simp [evOk, evBad, evRest, loK, hiK, nodeK, hs1]
    clear hb hsz cT cA
    go_enter Try.func56, Try.ntmps56
    go_wp2_with fail
    go_ret
    exact ⟨rfl, (Below.refl _ w).alloc (Nat.le_refl _) _⟩
  · by_cases hs2 : 0 < style
    ·
      obtain rfl : b = false := by rw [← hb]; simp [evOk, evBad, evRest, loK, hiK, nodeK, hs1, hs2]
      clear hb hsz cT cA
      go_enter Try.func56, Try.ntmps56
      go_wp2_with fail
      go_ret
      exact ⟨rfl, (Below.refl _ w).alloc (Nat.le_refl _) _⟩
    ·
      cases flag with
      | true =>
        obtain rfl : b = false := by rw [← hb]; simp [evOk, evBad, evRest, loK, hiK, nodeK, hs1, hs2]
        clear hb hsz cT cA
        go_enter Try.func56, Try.ntmps56
        go_wp2_with fail
        go_ret
        exact ⟨rfl, (Below.refl _ w).alloc (Nat.le_refl _) _⟩
      | false =>
        cases ht : noB text with
        | false =>
          have ht1 : (text.toList == []) = false := ht
          have ht2 : (text.toList != []) = true := by show (!(text.toList == [])) = _; rw [ht1]; rfl
          cases ha : noB anchor with
          | false =>
            have ha1 : (anchor.toList == []) = false := ha
            have ha2 : (anchor.toList != []) = true := by show (!(anchor.toList == [])) = _; rw [ha1]; rfl
            obtain rfl : b = false := by rw [← hb]; simp [evOk, evBad, evRest, loK, hiK, nodeK, hs1, hs2, ht, ha]
            clear hb hsz ht ha cT cA
            go_enter Try.func56, Try.ntmps56
            go_wp2_with fail
            go_ret
            exact ⟨rfl, (Below.refl _ w).alloc (Nat.le_refl _) _⟩
          | true =>
            have ha1 : (anchor.toList == []) = true := ha
            have ha2 : (anchor.toList != []) = false := by show (!(anchor.toList == [])) = _; rw [ha1]; rfl
            cases hg : noB tag with
            | false =>
              have hg1 : (tag.toList == []) = false := hg
              have hg2 : (tag.toList != []) = true := by show (!(tag.toList == [])) = _; rw [hg1]; rfl
              obtain rfl : b = false := by rw [← hb]; simp [evOk, evBad, evRest, loK, hiK, nodeK, hs1, hs2, ht, ha, hg]
              clear hb hsz ht ha hg cT cA
              go_enter Try.func56, Try.ntmps56
              go_wp2_with fail
              go_ret
              exact ⟨rfl, (Below.refl _ w).alloc (Nat.le_refl _) _⟩
            | true =>
              have hg1 : (tag.toList == []) = true := hg
              have hg2 : (tag.toList != []) = false := by show (!(tag.toList == [])) = _; rw [hg1]; rfl
              cases hn : nmOk text with
              | false =>
                rw [hn] at cT
                obtain rfl : b = false := by rw [← hb]; simp [evOk, evBad, evRest, loK, hiK, nodeK, hs1, hs2, ht, ha, hg, hn]
                clear hb hsz ht ha hg hn cA
                go_enter Try.func56, Try.ntmps56
                go_wp2_with fail
                refine (cT.out _).mono ?_
                rintro e w1 ⟨rfl, rfl⟩
                clear cT
                go_wp2_with fail
                go_ret
                exact ⟨rfl, (Below.refl _ w).alloc (Nat.le_refl _) _⟩
              | true =>
                rw [hn] at cT
                cases hm : nmOk anchor with
                | false =>
                  rw [hm] at cA
                  obtain rfl : b = false := by rw [← hb]; simp [evOk, evBad, evRest, loK, hiK, nodeK, hs1, hs2, ht, ha, hg, hn, hm]
                  clear hb hsz ht ha hg hn hm
                  go_enter Try.func56, Try.ntmps56
                  go_wp2_with fail
                  refine (cT.out _).mono ?_
                  rintro e w1 ⟨rfl, rfl⟩
                  clear cT
                  go_wp2_with fail
                  refine (cA.out _).mono ?_
                  rintro e w1 ⟨rfl, rfl⟩
                  clear cA
                  go_wp2_with fail
                  go_ret
                  exact ⟨rfl, (Below.refl _ w).alloc (Nat.le_refl _) _⟩
                | true =>
                  rw [hm] at cA
                  by_cases htg : (120 : Int) < (tag.size : Int)
                  · have htn : ¬ tag.size ≤ 120 := by omega
                    obtain rfl : b = false := by rw [← hb]; simp [evOk, evBad, evRest, loK, hiK, nodeK, hs1, hs2, ht, ha, hg, hn, hm, htn]
                    clear hb hsz ht ha hg hn hm
                    go_enter Try.func56, Try.ntmps56
                    go_wp2_with fail
                    refine (cT.out _).mono ?_
                    rintro e w1 ⟨rfl, rfl⟩
                    clear cT
                    go_wp2_with fail
                    refine (cA.out _).mono ?_
                    rintro e w1 ⟨rfl, rfl⟩
                    clear cA
                    go_wp2_with fail
                    go_ret
                    exact ⟨rfl, (Below.refl _ w).alloc (Nat.le_refl _) _⟩
                  · have htn : tag.size ≤ 120 := by omega
                    by_cases hc : code = 0
                    · have hc1 : (code == 0) = true := by rw [beq_iff_eq]; exact hc
                      by_cases hat : at_ = 0
                      · have hat1 : (at_ == 0) = true := by rw [beq_iff_eq]; exact hat
                        obtain rfl : b = true := by rw [← hb]; simp [evOk, evBad, evRest, loK, hiK, nodeK, hs1, hs2, ht, ha, hg, hn, hm, htn, hc, hat]
                        clear hb hsz ht ha hg hn hm
                        go_enter Try.func56, Try.ntmps56
                        go_wp2_with fail
                        refine (cT.out _).mono ?_
                        rintro e w1 ⟨rfl, rfl⟩
                        clear cT
                        go_wp2_with fail
                        refine (cA.out _).mono ?_
                        rintro e w1 ⟨rfl, rfl⟩
                        clear cA
                        go_wp2_with fail
                        go_ret
                        exact ⟨rfl, (Below.refl _ w).alloc (Nat.le_refl _) _⟩
                      · have hat1 : (at_ == 0) = false := by rw [beq_eq_false_iff_ne]; exact hat
                        obtain rfl : b = false := by rw [← hb]; simp [evOk, evBad, evRest, loK, hiK, nodeK, hs1, hs2, ht, ha, hg, hn, hm, htn, hc, hat]
                        clear hb hsz ht ha hg hn hm
                        go_enter Try.func56, Try.ntmps56
                        go_wp2_with fail
                        refine (cT.out _).mono ?_
                        rintro e w1 ⟨rfl, rfl⟩
                        clear cT
                        go_wp2_with fail
                        refine (cA.out _).mono ?_
                        rintro e w1 ⟨rfl, rfl⟩
                        clear cA
                        go_wp2_with fail
                        go_ret
                        exact ⟨rfl, (Below.refl _ w).alloc (Nat.le_refl _) _⟩
                    · have hc1 : (code == 0) = false := by rw [beq_eq_false_iff_ne]; exact hc
                      obtain rfl : b = false := by rw [← hb]; simp [evOk, evBad, evRest, loK, hiK, nodeK, hs1, hs2, ht, ha, hg, hn, hm, htn, hc]
                      clear hb hsz ht ha hg hn hm
                      go_enter Try.func56, Try.ntmps56
                      go_wp2_with fail
                      refine (cT.out _).mono ?_
                      rintro e w1 ⟨rfl, rfl⟩
                      clear cT
                      go_wp2_with fail
                      refine (cA.out _).mono ?_
                      rintro e w1 ⟨rfl, rfl⟩
                      clear cA
                      go_wp2_with fail
                      go_ret
                      exact ⟨rfl, (Below.refl _ w).alloc (Nat.le_refl _) _⟩
        | true =>
          have ht1 : (text.toList == []) = true := ht
          have ht2 : (text.toList != []) = false := by show (!(text.toList == [])) = _; rw [ht1]; rfl
          cases ha : noB anchor with
          | false =>
            have ha1 : (anchor.toList == []) = false := ha
            have ha2 : (anchor.toList != []) = true := by show (!(anchor.toList == [])) = _; rw [ha1]; rfl
            obtain rfl : b = false := by rw [← hb]; simp [evOk, evBad, evRest, loK, hiK, nodeK, hs1, hs2, ht, ha]
            clear hb hsz ht ha cT cA
            go_enter Try.func56, Try.ntmps56
            go_wp2_with fail
            go_ret
            exact ⟨rfl, (Below.refl _ w).alloc (Nat.le_refl _) _⟩
          | true =>
            have ha1 : (anchor.toList == []) = true := ha
            have ha2 : (anchor.toList != []) = false := by show (!(anchor.toList == [])) = _; rw [ha1]; rfl
            cases hg : noB tag with
            | false =>
              have hg1 : (tag.toList == []) = false := hg
              have hg2 : (tag.toList != []) = true := by show (!(tag.toList == [])) = _; rw [hg1]; rfl
              obtain rfl : b = false := by rw [← hb]; simp [evOk, evBad, evRest, loK, hiK, nodeK, hs1, hs2, ht, ha, hg]
              clear hb hsz ht ha hg cT cA
              go_enter Try.func56, Try.ntmps56
              go_wp2_with fail
              go_ret
              exact ⟨rfl, (Below.refl _ w).alloc (Nat.le_refl _) _⟩
            | true =>
              have hg1 : (tag.toList == []) = true := hg
              have hg2 : (tag.toList != []) = false := by show (!(tag.toList == [])) = _; rw [hg1]; rfl
              obtain rfl : b = false := by rw [← hb]; simp [evOk, evBad, evRest, loK, hiK, nodeK, hs1, hs2, ht, ha, hg]
              clear hb hsz ht ha hg cT cA
              go_enter Try.func56, Try.ntmps56
              go_wp2_with fail
              go_ret
              exact ⟨rfl, (Below.refl _ w).alloc (Nat.le_refl _) _⟩
set_option linter.unusedSimpArgs false in
set_option maxHeartbeats 16000000 in
theorem ev_10 (style : Int) (flag : Bool) (text anchor tag : ByteArray) (at_ code : Int) (w : World) (hsz : text.size ≤ mx ∧ anchor.size ≤ mx ∧ tag.size ≤ mx) (b : Bool) (hb : evOk ⟨10, style, flag, text, anchor, tag, at_, code⟩ = b) :
    Calls Try.prog 56 #[.agg (Ev.row ⟨10, style, flag, text, anchor, tag, at_, code⟩)] w fun e w' => e = .returned (.bool b) ∧ Below w.heap.size w w' := by
  have cT : Hid (∀ w, Calls Try.prog 63 #[.string text] w fun e w' => e = .returned (.bool (nmOk text)) ∧ w' = w) := fun w => name_any text w hsz.1 _ rfl
  have cA : Hid (∀ w, Calls Try.prog 63 #[.string anchor] w fun e w' => e = .returned (.bool (nmOk anchor)) ∧ w' = w) := fun w => name_any anchor w hsz.2.1 _ rfl
  have hz : tag.size < 9223372036854775807 := by have := hsz.2.2; unfold mx at this; omega
  unfold Ev.row
  by_cases hs1 : style < 0
  ·
    obtain rfl : b = false := by rw [← hb]; simp [evOk, evBad, evRest, loK, hiK, nodeK, hs1]
    clear hb hsz cT cA
    go_enter Try.func56, Try.ntmps56
    go_wp2_with fail
    go_ret
    exact ⟨rfl, (Below.refl _ w).alloc (Nat.le_refl _) _⟩
  · by_cases hs2 : 0 < style
    ·
      obtain rfl : b = false := by rw [← hb]; simp [evOk, evBad, evRest, loK, hiK, nodeK, hs1, hs2]
      clear hb hsz cT cA
      go_enter Try.func56, Try.ntmps56
      go_wp2_with fail
      go_ret
      exact ⟨rfl, (Below.refl _ w).alloc (Nat.le_refl _) _⟩
    ·
      cases flag with
      | true =>
        obtain rfl : b = false := by rw [← hb]; simp [evOk, evBad, evRest, loK, hiK, nodeK, hs1, hs2]
        clear hb hsz cT cA
        go_enter Try.func56, Try.ntmps56
        go_wp2_with fail
        go_ret
        exact ⟨rfl, (Below.refl _ w).alloc (Nat.le_refl _) _⟩
      | false =>
        cases ht : noB text with
        | false =>
          have ht1 : (text.toList == []) = false := ht
          have ht2 : (text.toList != []) = true := by show (!(text.toList == [])) = _; rw [ht1]; rfl
          obtain rfl : b = false := by rw [← hb]; simp [evOk, evBad, evRest, loK, hiK, nodeK, hs1, hs2, ht]
          clear hb hsz ht cT cA
          go_enter Try.func56, Try.ntmps56
          go_wp2_with fail
          go_ret
          exact ⟨rfl, (Below.refl _ w).alloc (Nat.le_refl _) _⟩
        | true =>
          have ht1 : (text.toList == []) = true := ht
          have ht2 : (text.toList != []) = false := by show (!(text.toList == [])) = _; rw [ht1]; rfl
          cases ha : noB anchor with
          | false =>
            have ha1 : (anchor.toList == []) = false := ha
            have ha2 : (anchor.toList != []) = true := by show (!(anchor.toList == [])) = _; rw [ha1]; rfl
            obtain rfl : b = false := by rw [← hb]; simp [evOk, evBad, evRest, loK, hiK, nodeK, hs1, hs2, ht, ha]
            clear hb hsz ht ha cT cA
            go_enter Try.func56, Try.ntmps56
            go_wp2_with fail
            go_ret
            exact ⟨rfl, (Below.refl _ w).alloc (Nat.le_refl _) _⟩
          | true =>
            have ha1 : (anchor.toList == []) = true := ha
            have ha2 : (anchor.toList != []) = false := by show (!(anchor.toList == [])) = _; rw [ha1]; rfl
            cases hg : noB tag with
            | false =>
              have hg1 : (tag.toList == []) = false := hg
              have hg2 : (tag.toList != []) = true := by show (!(tag.toList == [])) = _; rw [hg1]; rfl
              obtain rfl : b = false := by rw [← hb]; simp [evOk, evBad, evRest, loK, hiK, nodeK, hs1, hs2, ht, ha, hg]
              clear hb hsz ht ha hg cT cA
              go_enter Try.func56, Try.ntmps56
              go_wp2_with fail
              go_ret
              exact ⟨rfl, (Below.refl _ w).alloc (Nat.le_refl _) _⟩
            | true =>
              have hg1 : (tag.toList == []) = true := hg
              have hg2 : (tag.toList != []) = false := by show (!(tag.toList == [])) = _; rw [hg1]; rfl
              by_cases k1 : 1 ≤ code
              · by_cases k2 : code ≤ 99
                · by_cases k3 : 0 ≤ at_
                  ·
                    obtain rfl : b = true := by rw [← hb]; simp [evOk, evBad, evRest, loK, hiK, nodeK, hs1, hs2, ht, ha, hg, k1, k2, k3]
                    clear hb hsz ht ha hg cT cA
                    go_enter Try.func56, Try.ntmps56
                    go_wp2_with fail
                    go_ret
                    exact ⟨rfl, (Below.refl _ w).alloc (Nat.le_refl _) _⟩
                  ·
                    obtain rfl : b = false := by rw [← hb]; simp [evOk, evBad, evRest, loK, hiK, nodeK, hs1, hs2, ht, ha, hg, k1, k2, k3]
                    clear hb hsz ht ha hg cT cA
                    go_enter Try.func56, Try.ntmps56
                    go_wp2_with fail
                    go_ret
                    exact ⟨rfl, (Below.refl _ w).alloc (Nat.le_refl _) _⟩
                ·
                  obtain rfl : b = false := by rw [← hb]; simp [evOk, evBad, evRest, loK, hiK, nodeK, hs1, hs2, ht, ha, hg, k1, k2]
                  clear hb hsz ht ha hg cT cA
                  go_enter Try.func56, Try.ntmps56
                  go_wp2_with fail
                  go_ret
                  exact ⟨rfl, (Below.refl _ w).alloc (Nat.le_refl _) _⟩
              ·
                obtain rfl : b = false := by rw [← hb]; simp [evOk, evBad, evRest, loK, hiK, nodeK, hs1, hs2, ht, ha, hg, k1]
                clear hb hsz ht ha hg cT cA
                go_enter Try.func56, Try.ntmps56
                go_wp2_with fail
                go_ret
                exact ⟨rfl, (Below.refl _ w).alloc (Nat.le_refl _) _⟩
end Go.Proofs.Ytkdlakcmhdiojaa
/- The contract of spec.EventOk. -/
namespace Go.Proofs.Ytkdlakcmhdiojaa
open Go.ChangeShapes Go.WideShapes Go.ChangeAt Go.RowKit
set_option maxHeartbeats 4000000 in
theorem ev_out (kind style : Int) (flag : Bool) (text anchor tag : ByteArray) (at_ code : Int) (w : World) (hk : kind < 1 ∨ 10 < kind) :
    Calls Try.prog 56 #[.agg (Ev.row ⟨kind, style, flag, text, anchor, tag, at_, code⟩)] w fun e w' => e = .returned (.bool false) ∧ Below w.heap.size w w' := by
  have h3 : (kind == 3) = false := by rw [beq_eq_false_iff_ne]; omega
  have h4 : (kind == 4) = false := by rw [beq_eq_false_iff_ne]; omega
  have h5 : (kind == 5) = false := by rw [beq_eq_false_iff_ne]; omega
  unfold Ev.row
  rcases hk with h | h
  · go_enter Try.func56, Try.ntmps56
    go_wp2_with fail
    go_ret
    exact ⟨rfl, (Below.refl _ w).alloc (Nat.le_refl _) _⟩
  · have h1 : ¬ kind < 1 := by omega
    go_enter Try.func56, Try.ntmps56
    go_wp2_with fail
    go_ret
    exact ⟨rfl, (Below.refl _ w).alloc (Nat.le_refl _) _⟩
theorem spec_eventOk (e : Ev) (w : World) (hsz : e.text.size ≤ mx ∧ e.anchor.size ≤ mx ∧ e.tag.size ≤ mx) (b : Bool) (hb : evOk e = b) :
    Calls Try.prog 56 #[.agg e.row] w fun r w' => r = .returned (.bool b) ∧ Below w.heap.size w w' := by
  obtain ⟨kind, style, flag, text, anchor, tag, at_, code⟩ := e
  by_cases hk : kind < 1 ∨ 10 < kind
  · obtain rfl : false = b := by
      rw [← hb]
      unfold evOk
      rw [if_pos (by rcases hk with h | h; exact .inl h; exact .inr (.inl h))]
    exact ev_out kind style flag text anchor tag at_ code w hk
  · rcases (show kind = 1 ∨ kind = 2 ∨ kind = 3 ∨ kind = 4 ∨ kind = 5 ∨ kind = 6 ∨ kind = 7 ∨ kind = 8 ∨ kind = 9 ∨ kind = 10 by omega) with rfl | rfl | rfl | rfl | rfl | rfl | rfl | rfl | rfl | rfl
    · exact ev_1 style flag text anchor tag at_ code w hsz b hb
    · exact ev_2 style flag text anchor tag at_ code w hsz b hb
    · exact ev_3 style flag text anchor tag at_ code w hsz b hb
    · exact ev_4 style flag text anchor tag at_ code w hsz b hb
    · exact ev_5 style flag text anchor tag at_ code w hsz b hb
    · exact ev_6 style flag text anchor tag at_ code w hsz b hb
    · exact ev_7 style flag text anchor tag at_ code w hsz b hb
    · exact ev_8 style flag text anchor tag at_ code w hsz b hb
    · exact ev_9 style flag text anchor tag at_ code w hsz b hb
    · exact ev_10 style flag text anchor tag at_ code w hsz b hb
end Go.Proofs.Ytkdlakcmhdiojaa
/- An event that came in: how large it is, and a copy of it. -/
namespace Go.Proofs.Ytkdlakcmhdiojaa
open Go.ChangeShapes Go.WideShapes Go.ChangeAt Go.RowKit
def szE (e : Ev) (l : Int) : Int :=
  if l - e.text.size < 0 then -1 else if l - e.text.size - e.anchor.size < 0 then -1 else if l - e.text.size - e.anchor.size - e.tag.size < 0 then -1 else l - e.text.size - e.anchor.size - e.tag.size
theorem szE_cases (e : Ev) (l : Int) : szE e l = -1 ∨ (szE e l = l - e.text.size - e.anchor.size - e.tag.size ∧ 0 ≤ l - e.text.size - e.anchor.size - e.tag.size) := by
  unfold szE
  split
  · exact .inl rfl
  · split
    · exact .inl rfl
    · split
      · exact .inl rfl
      · exact .inr ⟨rfl, by omega⟩
set_option maxHeartbeats 4000000 in
theorem szE_any (e : Ev) (l : Int) (w : World) (l0 : 0 ≤ l) (l1 : l ≤ 1048576) (hw : wideE e) :
    Calls Try.prog 19 #[.agg e.row, .int .i64 l] w fun r w' => r = .returned (.int .i64 (szE e l)) ∧ Below w.heap.size w w' := by
  obtain ⟨kind, style, flag, text, anchor, tag, at_, code⟩ := e
  obtain ⟨z1, z2, z3⟩ : text.size ≤ 9223372036854775807 ∧ anchor.size ≤ 9223372036854775807 ∧ tag.size ≤ 9223372036854775807 := hw
  show Calls Try.prog 19 #[.agg #[.int .i64 kind, .int .i64 style, .bool flag, .string text, .string anchor, .string tag, .int .i64 at_, .int .i64 code], .int .i64 l] w fun r w' => r = .returned (.int .i64 (if l - text.size < 0 then -1 else if l - text.size - anchor.size < 0 then -1 else if l - text.size - anchor.size - tag.size < 0 then -1 else l - text.size - anchor.size - tag.size)) ∧ Below w.heap.size w w'
  have hal : Hid (Below w.heap.size w (w.alloc (.cells #[.int .i64 kind, .int .i64 style, .bool flag, .string text, .string anchor, .string tag, .int .i64 at_, .int .i64 code] 46))) := (Below.refl _ w).alloc (Nat.le_refl _) _
  by_cases h1 : l - (text.size : Int) < 0
  · rw [if_pos h1]
    go_enter Try.func19, Try.ntmps19
    go_wp2_with fail
    go_ret
    exact ⟨rfl, hal.out⟩
  · rw [if_neg h1]
    by_cases h2 : l - (text.size : Int) - (anchor.size : Int) < 0
    · rw [if_pos h2]
      go_enter Try.func19, Try.ntmps19
      go_wp2_with fail
      go_ret
      exact ⟨rfl, hal.out⟩
    · rw [if_neg h2]
      by_cases h3 : l - (text.size : Int) - (anchor.size : Int) - (tag.size : Int) < 0
      · rw [if_pos h3]
        go_enter Try.func19, Try.ntmps19
        go_wp2_with fail
        go_ret
        exact ⟨rfl, hal.out⟩
      · rw [if_neg h3]
        go_enter Try.func19, Try.ntmps19
        go_wp2_with fail
        go_ret
        exact ⟨rfl, hal.out⟩
set_option maxHeartbeats 4000000 in
theorem toE_any (e : Ev) (w : World) :
    Calls Try.prog 24 #[.agg e.row] w fun r w' => r = .returned (.agg e.row) ∧ Below w.heap.size w w' := by
  obtain ⟨kind, style, flag, text, anchor, tag, at_, code⟩ := e
  obtain ⟨R, hR⟩ : ∃ R, R = #[Value.int .i64 kind, .int .i64 style, .bool flag, .string text, .string anchor, .string tag, .int .i64 at_, .int .i64 code] := ⟨_, rfl⟩
  show Calls Try.prog 24 #[.agg #[.int .i64 kind, .int .i64 style, .bool flag, .string text, .string anchor, .string tag, .int .i64 at_, .int .i64 code]] w fun r w' => r = .returned (.agg #[.int .i64 kind, .int .i64 style, .bool flag, .string text, .string anchor, .string tag, .int .i64 at_, .int .i64 code]) ∧ Below w.heap.size w w'
  have hF : Hid ((((w.alloc (.cells R 46)).alloc (.cells R 47)).alloc (.cells R 47)).heap[w.heap.size + 1]? = some (.cells R 47 (0, 0))) := by
    show ((((w.heap.push _).push _).push _)[w.heap.size + 1]? = _)
    rw [Array.getElem?_push, if_neg (by simp), Array.getElem?_push, if_pos (by simp)]
  have hB : Hid (Below w.heap.size w (((w.alloc (.cells R 46)).alloc (.cells R 47)).alloc (.cells R 47))) := (((Below.refl _ w).alloc (Nat.le_refl _) _).alloc (by simp) _).alloc (by simp <;> omega) _
  rw [hR] at hF hB
  clear hR R
  go_enter Try.func24, Try.ntmps24
  go_wp2_with fail
  refine bodyPost_ret (results_cell_row rfl _ _ (w.heap.size + 1) 47 _ (0, 0) _ rfl hF.out Try.underlying47 rfl (by kernel_rfl)) rfl ?_
  exact ⟨rfl, hB.out⟩
end Go.Proofs.Ytkdlakcmhdiojaa
/- Events that come in as arguments, opened. -/
namespace Go.Proofs.Ytkdlakcmhdiojaa
open Go.ChangeShapes Go.WideShapes Go.ChangeAt Go.RowKit Go.Deep Go.Maps
def wfE (e : Ev) : Prop := (Lit.int .i64 e.kind).wf = true ∧ (Lit.int .i64 e.style).wf = true ∧ (Lit.int .i64 e.at_).wf = true ∧ (Lit.int .i64 e.code).wf = true
theorem cell_int {H : Type} {enc : TypeId × Value → H} {W : World} {base : Nat} {sp : Nat → Bool} {hd : Bool} {n : Nat} {v : Value} {y : DataW H × List MemPlace} (h : DataW.trod enc Try.prog W base sp hd n 3 [v] = some y) : ∃ i, v = .int .i64 i ∧ (Lit.int .i64 i).wf = true := by
  obtain ⟨i, e, _, hw⟩ := DataW.trod_int Try.underlying3 h
  exact ⟨i, by simpa using e, hw⟩
theorem cell_bool {H : Type} {enc : TypeId × Value → H} {W : World} {base : Nat} {sp : Nat → Bool} {hd : Bool} {n : Nat} {v : Value} {y : DataW H × List MemPlace} (h : DataW.trod enc Try.prog W base sp hd n 4 [v] = some y) : ∃ i, v = .bool i := by
  obtain ⟨i, e, _⟩ := DataW.trod_bool Try.underlying4 h
  exact ⟨i, by simpa using e⟩
theorem cell_str {H : Type} {enc : TypeId × Value → H} {W : World} {base : Nat} {sp : Nat → Bool} {hd : Bool} {n : Nat} {v : Value} {y : DataW H × List MemPlace} (h : DataW.trod enc Try.prog W base sp hd n 9 [v] = some y) : ∃ i : ByteArray, v = .string i ∧ i.size ≤ 9223372036854775807 := by
  obtain ⟨i, e, _, hw⟩ := DataW.trod_string Try.underlying9 h
  unfold maxLen at hw
  exact ⟨i, by simpa using e, by omega⟩
set_option maxRecDepth 100000 in
theorem trod_event {H : Type} {enc : TypeId × Value → H} {W : World} {base : Nat} {sp : Nat → Bool} {hd : Bool} {n : Nat} {cs : List Value} {x : DataW H × List MemPlace} (h : DataW.trod enc Try.prog W base sp hd n 46 cs = some x) :
    ∃ e : Ev, cs = e.row.toList ∧ wideE e ∧ wfE e := by
  obtain ⟨xs, m, _, _, hl, hxl, hf⟩ := DataW.trod_struct Try.underlying46 h
  have ce : Try.prog.cellsOf 46 = 8 := by kernel_rfl
  have c1 : Try.prog.cellsOf 3 = 1 := by kernel_rfl
  have c2 : Try.prog.cellsOf 4 = 1 := by kernel_rfl
  have c3 : Try.prog.cellsOf 9 = 1 := by kernel_rfl
  rw [ce] at hl
  match xs, hxl, cs, hl with
  | [y0, y1, y2, y3, y4, y5, y6, y7], _, [v0, v1, v2, v3, v4, v5, v6, v7], _ =>
    have g0 := hf 0 _ rfl
    have g1 := hf 1 _ rfl
    have g2 := hf 2 _ rfl
    have g3 := hf 3 _ rfl
    have g4 := hf 4 _ rfl
    have g5 := hf 5 _ rfl
    have g6 := hf 6 _ rfl
    have g7 := hf 7 _ rfl
    simp [c1, c2, c3] at g0 g1 g2 g3 g4 g5 g6 g7
    obtain ⟨a0, rfl, w0⟩ := cell_int g0
    obtain ⟨a1, rfl, w1⟩ := cell_int g1
    obtain ⟨a2, rfl⟩ := cell_bool g2
    obtain ⟨a3, rfl, w3⟩ := cell_str g3
    obtain ⟨a4, rfl, w4⟩ := cell_str g4
    obtain ⟨a5, rfl, w5⟩ := cell_str g5
    obtain ⟨a6, rfl, w6⟩ := cell_int g6
    obtain ⟨a7, rfl, w7⟩ := cell_int g7
    exact ⟨⟨a0, a1, a2, a3, a4, a5, a6, a7⟩, rfl, ⟨w3, w4, w5⟩, ⟨w0, w1, w6, w7⟩⟩
set_option maxRecDepth 100000 in
theorem open_event {H : Type} {enc : TypeId × Value → H} {W : World} {sp : Nat → Bool} {hd : Bool} {r : Reach} {b0 : Nat} {v : Value} {d : DataW H} {p : List MemPlace} (hv : Value.okWide Try.prog W r b0 46 v) (h : DataW.Trod enc Try.prog W 0 sp hd 46 v d p) :
    ∃ e : Ev, v = .agg e.row ∧ wideE e ∧ wfE e := by
  obtain ⟨cs, rfl, hsz⟩ := okWide_struct Try.underlying46 hv
  obtain ⟨fuel, hf⟩ := h
  obtain ⟨e, he, h1, h2⟩ := trod_event hf
  refine ⟨e, ?_, h1, h2⟩
  have : cs = e.row := by
    apply Array.ext'
    simpa [Value.cells] using he
  rw [this]
set_option maxRecDepth 100000 in
theorem open_events {H : Type} {enc : TypeId × Value → H} {W : World} {sp : Nat → Bool} {hd : Bool} {n : Nat} {V : Value} {y : DataW H × List MemPlace} (h : DataW.trod enc Try.prog W 0 sp hd n 22 [V] = some y) :
    ∃ es, SlE W V es ∧ wideEs es ∧ (∀ e ∈ es, wfE e) ∧ es.length ≤ 9223372036854775807 := by
  have ce : Try.prog.cellsOf 46 = 8 := by kernel_rfl
  rcases open_slice Try.underlying22 h with ⟨hcs, _⟩ | ⟨a, len, cap, m, n', D, Pl, hcs, _, hl, hm, hmm, _, hx⟩
  · obtain rfl : V = .slice none 0 0 := by simpa using hcs
    exact ⟨[], .inl ⟨rfl, _, _, rfl⟩, fun q hq => (by cases hq), fun q hq => (by cases hq), by simp⟩
  · obtain rfl : V = .slice (some a) len cap := by simpa using hcs
    have hlm : len ≤ m := by rw [hmm]; split <;> omega
    have one : ∀ i, i < len → ∃ e : Ev, wideE e ∧ wfE e ∧ ∀ j u, e.row[j]? = some u → W.cell? (a.add (i * 8 + j)) = some u := by
      intro i hi
      obtain ⟨cs', h1, h2⟩ := hx i (by omega)
      rw [ce] at h1
      obtain ⟨e, rfl, hw, hf⟩ := trod_event h2
      obtain ⟨_, _, hcell⟩ := World.cells?_some h1
      refine ⟨e, hw, hf, fun j u hu => ?_⟩
      have hj : j < 8 := (Array.getElem?_eq_some_iff.1 hu).1
      have := hcell j hj
      rw [add_add] at this
      rw [this, ← hu]
      simp
    have each : ∀ k, k ≤ len → ∃ es : List Ev, es.length = k ∧ wideEs es ∧ (∀ e ∈ es, wfE e) ∧ ∀ i e, es[i]? = some e → ∀ j u, e.row[j]? = some u → W.cell? (a.add (i * 8 + j)) = some u := by
      intro k
      induction k with
      | zero => exact fun _ => ⟨[], rfl, fun q hq => (by cases hq), fun q hq => (by cases hq), fun i p hp => (by simp at hp)⟩
      | succ k ih =>
        intro hk
        obtain ⟨es, hpl, hwd, hwf, hv⟩ := ih (by omega)
        obtain ⟨e, h1, h2, h3⟩ := one k (by omega)
        refine ⟨es ++ [e], by simp [hpl], ?_, ?_, ?_⟩
        · intro q hq
          rcases List.mem_append.1 hq with hq | hq
          · exact hwd q hq
          · obtain rfl : q = e := by simpa using hq
            exact h1
        · intro q hq
          rcases List.mem_append.1 hq with hq | hq
          · exact hwf q hq
          · obtain rfl : q = e := by simpa using hq
            exact h2
        · intro i p hp
          by_cases hi : i < k
          · rw [List.getElem?_append_left (by omega)] at hp
            exact hv i p hp
          · have hik : i = k := by
              have : i < (es ++ [e]).length := by
                rcases Nat.lt_or_ge i (es ++ [e]).length with h' | h'
                · exact h'
                · rw [List.getElem?_eq_none h'] at hp; cases hp
              simp at this; omega
            subst hik
            rw [List.getElem?_append_right (by omega), hpl] at hp
            obtain rfl : e = p := by simpa using hp
            exact h3
    obtain ⟨es, hpl, hwd, hwf, hv⟩ := each len (Nat.le_refl _)
    unfold maxLen at hm
    refine ⟨es, ?_, hwd, hwf, by omega⟩
    by_cases h0 : es = []
    · left
      subst h0
      simp at hpl
      subst hpl
      exact ⟨rfl, _, _, rfl⟩
    · right
      have hpos : 0 < es.length := List.length_pos_iff.2 h0
      obtain ⟨b, off, spot⟩ := a
      obtain ⟨e, he⟩ : ∃ e, es[0]? = some e := ⟨_, List.getElem?_eq_getElem hpos⟩
      have hc0 := hv 0 e he 0 _ rfl
      have hspot : spot = none := by simpa [Addr.add] using World.cell?_spot hc0
      subst hspot
      have hlt := World.block_lt_of_cell? W _ hc0
      refine ⟨h0, b, off, cap, by rw [hpl], by simpa [Addr.add] using hlt, by omega, fun i p hp j u hu => ?_⟩
      have := hv i p hp j u hu
      rw [add_plain] at this
      rw [← this]
      congr 2
      omega
end Go.Proofs.Ytkdlakcmhdiojaa
/- The law on EventOk, walked, over impl's contract. -/
namespace Go.Proofs.Ytkdlakcmhdiojaa
open Go.ChangeShapes Go.WideShapes Go.ChangeAt Go.RowKit
/-- What is asked of impl.EventOk. -/
def ImplEo : Prop := ∀ (e : Ev) (w : World), e.tot ≤ 1048576 → wfE e →
    Calls Try.prog 58 #[.agg e.row] w fun r w' => r = .returned (.bool (evOk e)) ∧ Below w.heap.size w w'
end Go.Proofs.Ytkdlakcmhdiojaa
