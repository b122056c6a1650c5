/- impl.until goes to the first of some bytes. -/
import Derived.Test.YtmbbmibkjnlkkaaIsg
import Derived.Deep.QuietTactic
import Derived.BigQuiet
import Derived.WalkMore
import Derived.Laws.EntriesVeiled
namespace Go.Proofs.Ytmbbmibkjnlkkaa
open Go.ChangeShapes Go.WideShapes Go.ChangeAt Go.RowKit Go.Shelf
theorem untilC_any (t : ByteArray) (P Q : Nat → Bool) (B F : Nat) (w : World) (hF : w.heap[F]? = some (.cells #[.func (.func 72) #[] #[.pointer (some ⟨B, 0, none⟩)]] 91 (0, 0))) (hB : w.heap[B]? = some (.cells #[.string t] 9 (0, 0))) (hP : SignsQ P t) (hQ : ∀ x, Q x = !P x) :
    PredB 71 #[.pointer (some ⟨F, 0, none⟩)] Q w := by
  intro W x hx hb
  have hlt : F < w.heap.size := (Array.getElem?_eq_some_iff.1 hF).1
  have hFW : W.heap[F]? = some (.cells #[.func (.func 72) #[] #[.pointer (some ⟨B, 0, none⟩)]] 91 (0, 0)) := (hb.block _ hlt).trans hF
  have hcl : W.cell? ⟨F, 0, none⟩ = some (.func (.func 72) #[] #[.pointer (some ⟨B, 0, none⟩)]) := by simp [World.cell?, hFW]
  have cS : Calls Try.prog 72 (#[.int .u8 (x : Int)] ++ #[.pointer (some ⟨B, 0, none⟩)]) W _ := amongC_any t P B w hB hP W x hx hb
  have HQ : Hid (Q x = !P x) := hQ x
  have eg : ∀ args w, (callFunc 72 args).run Try.prog w = .ok (.enter 72 args) w := enters_of Try.func72 (by kernel_rfl) rfl
  clear hFW hF hB hb hP hQ
  show Calls Try.prog 71 #[.int .u8 (x : Int), .pointer (some ⟨F, 0, none⟩)] W _
  generalize hp : P x = px at *
  clear hp
  go_enter Try.func71, Try.ntmps71
  go_wp2_with (go_at_fn 72; refine cS.mono ?_; rintro e W' ⟨rfl, hbc⟩)
  go_ret
  exact ⟨ret_bool HQ.out.symm, hbc⟩
set_option maxHeartbeats 1000000 in
theorem until_any (s t : ByteArray) (p : Int) (P Q : Nat → Bool) (w : World) (hs : s.size ≤ mx) (hP : SignsQ P t) (hQ : ∀ x, Q x = !P x) :
    Calls Try.prog 68 #[.string s, .int .i64 p, .string t] w fun e w' => e = .returned (.int .i64 (fwd Q s (cl s.size p))) ∧ Below w.heap.size w w' := by
  go_enter Try.func68, Try.ntmps68
  go_wp2_with fail
  refine (among_any _ _).mono ?_
  rintro e w1 ⟨B, rfl, hB, hb1⟩
  go_wp2_with fail
  have hAlt : B < w1.heap.size := (Array.getElem?_eq_some_iff.1 hB).1
  have hF : (w1.alloc (.cells #[.func (.func 72) #[] #[.pointer (some ⟨B, 0, none⟩)]] 91)).heap[w1.heap.size]? = some (.cells #[.func (.func 72) #[] #[.pointer (some ⟨B, 0, none⟩)]] 91 (0, 0)) := by show (w1.heap.push _)[w1.heap.size]? = _; simp
  have hn : Below w1.heap.size w1 (w1.alloc (.cells #[.func (.func 72) #[] #[.pointer (some ⟨B, 0, none⟩)]] 91)) := (Below.refl _ w1).alloc (Nat.le_refl _) _
  have hB' : (w1.alloc (.cells #[.func (.func 72) #[] #[.pointer (some ⟨B, 0, none⟩)]] 91)).heap[B]? = some (.cells #[.string t] 9 (0, 0)) := (hn.block _ hAlt).trans hB
  have hb2 : Below w.heap.size w (w1.alloc (.cells #[.func (.func 72) #[] #[.pointer (some ⟨B, 0, none⟩)]] 91)) := hb1.alloc hb1.size _
  generalize w1.alloc (.cells #[.func (.func 72) #[] #[.pointer (some ⟨B, 0, none⟩)]] 91) = w2 at *
  generalize w1.heap.size = F at *
  have cO := over_any s p 71 _ Q (enters_of Try.func71 (by kernel_rfl) rfl) _ hs (untilC_any t P Q B F w2 hF hB' hP hQ)
  clear hF hB' hB hAlt hn hP hQ
  go_wp2_with fail
  refine cO.mono ?_
  rintro e w3 ⟨rfl, hb3⟩
  go_wp2_with fail
  go_ret
  exact ⟨rfl, hb2.trans (hb3.mono hb2.size)⟩
theorem until_nat (s t : ByteArray) (k v : Nat) (P Q : Nat → Bool) (w : World) (hs : s.size ≤ mx) (hk : k ≤ s.size) (hP : SignsQ P t) (hQ : ∀ x, Q x = !P x) (hv : fwd Q s k = v) :
    Calls Try.prog 68 #[.string s, .int .i64 (k : Int), .string t] w fun e w' => e = .returned (.int .i64 (v : Int)) ∧ Below w.heap.size w w' := by
  have := until_any s t (k : Int) P Q w hs hP hQ
  rw [cl_nat _ _ hk, hv] at this
  exact this
end Go.Proofs.Ytmbbmibkjnlkkaa
