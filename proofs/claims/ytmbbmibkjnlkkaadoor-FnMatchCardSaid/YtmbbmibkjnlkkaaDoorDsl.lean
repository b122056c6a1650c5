/- The draws of lists of steps: spec's l17Segs, MakePath and MakeSegs. -/
import Derived.Test.YtmbbmibkjnlkkaaDoorDsg
import Derived.Deep.Light
namespace Go.Proofs.YtmbbmibkjnlkkaaDoor
open Go.ChangeShapes Go.WideShapes Go.ChangeAt Go.RowKit
def isSo (v : Value) : Prop := ∃ g n c, v = .slice (some ⟨g, 0, none⟩) n c
theorem so_row {w : World} {lo n : Nat} {e : TypeId} {sz : Nat} {v : Value} {xs : List Value} (h : w.ownsRow lo e sz v (n + 1) xs) : isSo v := by
  rcases h.2 with ⟨_, e⟩ | ⟨g, cap, cur, rfl, _⟩
  · omega
  · exact ⟨_, _, _, rfl⟩
/-- How far the steps are drawn: a cursor, and a row of its own behind the blocks of w0. -/
structure Sy (most : Int) (P : Nat) (w0 wr : World) (v : Value) (ss : List Sg) : Prop where
  cu : Cu P wr
  fr : Fr P w0 wr
  row : wr.ownsRow w0.heap.size 29 3 v ss.length (cellsP ss)
  ok : ∀ s ∈ ss, DrS most s
theorem Sy.read {most : Int} {P : Nat} {w0 wr w2 : World} {v : Value} {ss : List Sg} (h : Sy most P w0 wr v ss) (hP : P < w0.heap.size) (hS : St P wr w2) : Sy most P w0 w2 v ss :=
  ⟨hS.1, h.fr.trans hS.2, row_same h.row (fun k hk hk2 => hS.2.block k hk2 (by omega)), h.ok⟩
theorem Sy.more {most : Int} {P : Nat} {w0 w : World} {rv : Value} {ss : List Sg} {k n : Int} {t : ByteArray} (h : Sy most P w0 w rv ss) (hP : P < w0.heap.size) (hl : ss.length ≤ 1000) (hx : DrS most ⟨k, n, t⟩) (ty : TypeId) :
    ∃ v2 w2, (Builtin.append_ #[23, 23] ty #[rv, .slice (some ⟨w.heap.size, 0, none⟩) 1 1]).run Tryd.prog (w.alloc (.cells #[.int .i64 k, .int .i64 n, .string t] 29)) = .ok v2 w2 ∧ isSo v2 ∧ Sy most P w0 w2 v2 (ss ++ [⟨k, n, t⟩]) := by
  have hsz1 : w0.heap.size ≤ w.heap.size := h.fr.1.size
  obtain ⟨v2, w2, hr2, hsl, ho2, hbel, _⟩ := push_own (P := Tryd.prog) Tryd.underlying23 infoPz rfl (by decide) w w0.heap.size rv _ _ h.row #[.int .i64 k, .int .i64 n, .string t] rfl (by intro u hu; simp at hu; rcases hu with rfl | rfl | rfl <;> rfl) (by omega) (by omega) hsz1 ty
  refine ⟨v2, w2, hr2, so_row ho2, ⟨?_, ⟨h.fr.1.trans (hbel.mono (by omega)), fun b hb1 hb2 => (hbel.block b hb2).trans (h.fr.2 b hb1 hb2)⟩, ?_, ?_⟩⟩
  · obtain ⟨a, len, cap, i, hh, hc, h0, h1, hb⟩ := h.cu
    exact ⟨a, len, cap, i, hh, (hbel.block P hP).trans hc, h0, h1, hb.later (hbel.mono (by omega))⟩
  · rw [List.length_append, cellsP_snoc]
    exact ho2
  · intro z hz
    rcases List.mem_append.1 hz with hz | hz
    · exact h.ok z hz
    · obtain rfl : z = ⟨k, n, t⟩ := by simpa using hz
      exact hx
theorem row_lower {w : World} {lo lo2 n : Nat} {e : TypeId} {sz : Nat} {v : Value} {xs : List Value} (h : w.ownsRow lo e sz v n xs) (hl : lo2 ≤ lo) : w.ownsRow lo2 e sz v n xs := by
  refine ⟨h.1, ?_⟩
  rcases h.2 with e | ⟨g, cap, cur, e1, e2, r⟩
  · exact .inl e
  · exact .inr ⟨g, cap, cur, e1, Nat.le_trans hl e2, r⟩
def SegsPost (most : Int) (m : Int) (P : Nat) (w : World) (e : Ending) (w' : World) : Prop :=
  ∃ v ss, e = .returned v ∧ isSo v ∧ (ss.length : Int) ≤ m ∧ (∀ s ∈ ss, DrS most s) ∧ w'.ownsRow P 29 3 v ss.length (cellsP ss) ∧ Below P w w'
set_option maxHeartbeats 8000000 in
theorem segs_any (P : Nat) (most m0 : Int) (w : World) (hC : Cu P w) (h0 : 0 < most) (h5 : most ≤ 5) (hm0 : 0 ≤ m0) (hm9 : m0 ≤ 100) :
    Calls Tryd.prog 27 #[.pointer (some ⟨P, 0, none⟩), .int .i64 most, .int .i64 m0] w (SegsPost most m0 P w) := by
  have hP : P < w.heap.size := hC.lt
  have hL0 : Sy most P w (w.alloc (.cells #[] 29)) (.slice (some ⟨w.heap.size, 0, none⟩) 0 0) [] :=
    ⟨hC.alloc _, (Fr.refl P w).alloc hP _, World.ownsRow_made w #[] 0 (Nat.le_refl _) (by unfold maxLen; omega) rfl, fun z hz => by cases hz⟩
  have cN := below_any P (m0 + 1) _ (hC.alloc (.cells #[] 29)) (by omega) (by omega)
  have hwr : wrap64 (m0 + 1) = m0 + 1 := Go.IntWalk.wrap64_in _ ⟨by omega, by omega⟩
  have HL0 : Hid (Sy most P w (w.alloc (.cells #[] 29)) (.slice (some ⟨w.heap.size, 0, none⟩) 0 0) []) := hL0
  have HM : Hid (0 < most ∧ most ≤ 5 ∧ m0 ≤ 100) := ⟨h0, h5, hm9⟩
  clear hC hL0
  go_enter Tryd.func27, Tryd.ntmps27
  go_wp2_with fail
  refine cN.mono ?_
  rintro e w1 ⟨n, rfl, hn0, hn1, hS1⟩
  have HL1 : Hid (Sy most P w w1 (.slice (some ⟨w.heap.size, 0, none⟩) 0 0) []) := HL0.out.read hP hS1
  clear cN hS1 HL0
  go_wp2_with fail
  go_loopw [7, 8] (fun ov nv wr => ∃ (m : Nat) (ss : List Sg), (m : Int) ≤ n ∧ nv = .int .i64 m ∧ isSo ov ∧ Hid ((ss.length : Int) + m = n) ∧ Hid (Sy most P w wr ov ss)) (fun _ nv _ => (intOf nv).toNat)
  case atStart => exact ⟨n.toNat, [], by omega, by rw [Int.toNat_of_nonneg hn0], ⟨_, _, _, rfl⟩, by show ((0 : Nat) : Int) + _ = n; omega, HL1⟩
  case round =>
    obtain ⟨m, ss, hm, rfl, ⟨o0, o1, o2, rfl⟩, HK, HB⟩ := hrel
    cases m with
    | zero =>
      go_wp2_with fail
      go_ret
      have hB := HB.out
      exact ⟨_, ss, rfl, ⟨_, _, _, rfl⟩, by have := HK.out; omega, hB.ok, row_lower hB.row (Nat.le_of_lt hP), hB.fr.1⟩
    | succ m =>
      have hm0' : (0 : Int) < ((m + 1 : Nat) : Int) := by omega
      have cS := seg_draw P most wr HB.out.cu HM.out.1 HM.out.2.1
      go_wp2_with fail
      refine cS.mono ?_
      rintro e w2 ⟨⟨k, x, t⟩, rfl, ht, hS2⟩
      have hB2 := HB.out.read hP hS2
      obtain ⟨v4, w4, hrun, ⟨s0, s1, s2, rfl⟩, hB4⟩ := hB2.more hP (by have := HK.out; have := HM.out; omega) ht 23
      have HB4 : Hid (Sy most P w w4 (.slice (some ⟨s0, 0, none⟩) s1 s2) (ss ++ [⟨k, x, t⟩])) := hB4
      have HK4 : Hid (((ss ++ [(⟨k, x, t⟩ : Sg)]).length : Int) + m = n) := by
        have := HK.out
        show ((ss ++ [(⟨k, x, t⟩ : Sg)]).length : Int) + m = n
        rw [List.length_append]
        simp only [List.length_cons, List.length_nil]
        omega
      have hm2 : (m : Int) ≤ n := by omega
      unfold Sg.row
      clear hB2 hB4 hS2 HB ht HK cS
      go_wp2_with (at_builtin; refine append_run rfl _ _ 23 rfl _ _ rfl rfl _ w4 hrun ?_)
      go_roundw
      case rel =>
        go_light
        exact ⟨m, ss ++ [⟨k, x, t⟩], hm2, by go_num, ⟨_, _, _, rfl⟩, HK4, HB4⟩
      case measure =>
        go_light
        simp [intOf]
theorem makePath_any (a : Option Addr) (len cap : Nat) (w : World) (hb : Bs w.heap.size a len w) :
    Calls Tryd.prog 13 #[.slice a len cap] w (SegsPost 2 6 w.heap.size w) := by
  go_enter Tryd.func13, Tryd.ntmps13
  go_wp2_with fail
  refine (newC_any a len cap w hb).mono ?_
  rintro e w1 ⟨rfl, hC, hB⟩
  go_wp2_with fail
  refine (segs_any _ 2 6 w1 hC (by decide) (by decide) (by decide) (by decide)).mono ?_
  rintro e w2 ⟨v, ss, rfl, ⟨v0, v1, v2, rfl⟩, hl, ho, hS, hB2⟩
  have HO : Hid (SegsPost 2 6 w.heap.size w (.returned (.slice (some ⟨v0, 0, none⟩) v1 v2)) w2) := ⟨_, ss, rfl, ⟨_, _, _, rfl⟩, hl, ho, hS, hB.trans hB2⟩
  clear hS hB2 hB hC hl ho
  go_wp2_with fail
  go_ret
  exact HO.out
theorem makeSegs_any (a : Option Addr) (len cap : Nat) (w : World) (hb : Bs w.heap.size a len w) :
    Calls Tryd.prog 9 #[.slice a len cap] w (SegsPost 5 6 w.heap.size w) := by
  go_enter Tryd.func9, Tryd.ntmps9
  go_wp2_with fail
  refine (newC_any a len cap w hb).mono ?_
  rintro e w1 ⟨rfl, hC, hB⟩
  go_wp2_with fail
  refine (segs_any _ 5 6 w1 hC (by decide) (by decide) (by decide) (by decide)).mono ?_
  rintro e w2 ⟨v, ss, rfl, ⟨v0, v1, v2, rfl⟩, hl, ho, hS, hB2⟩
  have HO : Hid (SegsPost 5 6 w.heap.size w (.returned (.slice (some ⟨v0, 0, none⟩) v1 v2)) w2) := ⟨_, ss, rfl, ⟨_, _, _, rfl⟩, hl, ho, hS, hB.trans hB2⟩
  clear hS hB2 hB hC hl ho
  go_wp2_with fail
  go_ret
  exact HO.out
end Go.Proofs.YtmbbmibkjnlkkaaDoor
