/- The draws of lines: spec's l05Lines and MakeLines. -/
import Derived.Test.YtfpkcfedkjjjbacDwn
import Derived.Test.YtfpkcfedkjjjbacPsh
import Derived.Test.YtfpkcfedkjjjbacThf
namespace Go.Proofs.Ytfpkcfedkjjjbac
open Go.ChangeShapes Go.WideShapes Go.ChangeAt Go.RowKit
/-- The texts that the lines are drawn of. -/
def txL : List (List UInt8) := [[], [97], [98, 32, 99], [32, 102, 97, 114], [9, 116, 97, 98], [120]]
def pT (t : ByteArray) : Bool := txL.contains t.data.toList
/-- How far the lines are drawn: a cursor, and a row of its own behind the blocks of w0. -/
structure LyT (P : Nat) (w0 wr : World) (v : Value) (ss : List ByteArray) : Prop where
  cu : Cu P wr
  fr : Fr P w0 wr
  row : wr.ownsRow w0.heap.size 9 1 v ss.length (cellsS ss)
  ok : ∀ s ∈ ss, pT s = true
theorem LyT.read {P : Nat} {w0 wr w2 : World} {v : Value} {ss : List ByteArray} (h : LyT P w0 wr v ss) (hP : P < w0.heap.size) (hS : St P wr w2) : LyT P w0 w2 v ss :=
  ⟨hS.1, h.fr.trans hS.2, row_same h.row (fun k hk hk2 => hS.2.block k hk2 (by omega)), h.ok⟩
theorem LyT.more {P : Nat} {w0 w : World} {rv : Value} {ss : List ByteArray} {x : ByteArray} (h : LyT P w0 w rv ss) (hP : P < w0.heap.size) (hl : ss.length ≤ 1000) (hx : pT x = true) (ty : TypeId) :
    ∃ v2 w2, (Builtin.append_ #[23, 23] ty #[rv, .slice (some ⟨w.heap.size, 0, none⟩) 1 1]).run Try.prog (w.alloc (.cells #[.string x] 9)) = .ok v2 w2 ∧ isSl' v2 ∧ LyT P w0 w2 v2 (ss ++ [x]) := by
  have hsz1 : w0.heap.size ≤ w.heap.size := h.fr.1.size
  obtain ⟨v2, w2, hr2, hsl, ho2, hbel, _⟩ := push_own (P := Try.prog) Try.underlying23 infoS rfl (by decide) w w0.heap.size rv _ _ h.row #[.string x] rfl (by intro u hu; simp at hu; subst hu; rfl) (by omega) (by omega) hsz1 ty
  refine ⟨v2, w2, hr2, hsl, ⟨?_, ⟨h.fr.1.trans (hbel.mono (by omega)), fun b hb1 hb2 => (hbel.block b hb2).trans (h.fr.2 b hb1 hb2)⟩, ?_, ?_⟩⟩
  · obtain ⟨a, len, cap, i, hh, hc, h0, h1, hb⟩ := h.cu
    exact ⟨a, len, cap, i, hh, (hbel.block P hP).trans hc, h0, h1, hb.later (hbel.mono (by omega))⟩
  · rw [List.length_append]
    have e : cellsS (ss ++ [x]) = cellsS ss ++ [.string x] := by simp [cellsS]
    rw [e]
    exact ho2
  · intro z hz
    rcases List.mem_append.1 hz with hz | hz
    · exact h.ok z hz
    · obtain rfl : z = x := by simpa using hz
      exact hx
theorem sls_of_ownT {lo : Nat} {w : World} {v : Value} {ss : List ByteArray} (h : w.ownsRow lo 9 1 v ss.length (cellsS ss)) : SlS w v ss := by
  by_cases hz : ss = []
  · subst hz
    left
    rcases h.2 with ⟨e, _⟩ | ⟨g, cap, cur, e, _⟩
    · exact ⟨rfl, _, _, e⟩
    · exact ⟨rfl, _, _, e⟩
  · right
    have hpos : 0 < ss.length := List.length_pos_iff.2 hz
    rcases h.2 with ⟨_, e⟩ | ⟨g, cap, cur, rfl, hb, hg, hn, hm, hs, ht⟩
    · omega
    · refine ⟨hz, g, 0, cap, rfl, (Array.getElem?_eq_some_iff.1 hg).1, hn, fun i s hi => ?_⟩
      have := h.cells (g := g) rfl i (.string s) (by unfold cellsS; rw [List.getElem?_map, hi]; rfl)
      have hadd : (⟨g, 0, none⟩ : Addr).add i = ⟨g, i, none⟩ := by unfold Addr.add; split <;> simp_all
      rw [hadd] at this
      rw [Nat.zero_add]
      exact this
def LinesPostT (P : Nat) (w : World) (e : Ending) (w' : World) : Prop :=
  ∃ v ss, e = .returned v ∧ isSl' v ∧ ss.length ≤ 6 ∧ (∀ s ∈ ss, pT s = true) ∧ SlS w' v ss ∧ Below P w w'
set_option maxHeartbeats 4000000 in
theorem lines_anyT (P : Nat) (w : World) (hC : Cu P w) :
    Calls Try.prog 18 #[.pointer (some ⟨P, 0, none⟩)] w (LinesPostT P w) := by
  have hP : P < w.heap.size := hC.lt
  have hL0 : LyT P w (w.alloc (.cells #[] 9)) (.slice (some ⟨w.heap.size, 0, none⟩) 0 0) [] :=
    ⟨hC.alloc _, (Fr.refl P w).alloc hP _, World.ownsRow_made w #[] 0 (Nat.le_refl _) (by unfold maxLen; omega) rfl, fun z hz => by cases hz⟩
  have cN := below_any P 7 _ (hC.alloc (.cells #[] 9)) (by decide) (by decide)
  have HL0 : Hid (LyT P w (w.alloc (.cells #[] 9)) (.slice (some ⟨w.heap.size, 0, none⟩) 0 0) []) := hL0
  clear hC hL0
  go_enter Try.func18, Try.ntmps18
  go_wp2_with fail
  refine cN.mono ?_
  rintro e w1 ⟨n, rfl, hn0, hn1, hS1⟩
  have HL1 : Hid (LyT P w w1 (.slice (some ⟨w.heap.size, 0, none⟩) 0 0) []) := HL0.out.read hP hS1
  clear cN hS1 HL0
  go_wp2_with fail
  go_loopw [3, 4] (fun ov nv wr => ∃ (m : Nat) (ss : List ByteArray), (m : Int) ≤ n ∧ nv = .int .i64 m ∧ isSl' ov ∧ Hid ((ss.length : Int) + m = n) ∧ Hid (LyT P w wr ov ss)) (fun _ nv _ => (intOf nv).toNat)
  case atStart => exact ⟨n.toNat, [], by omega, by rw [Int.toNat_of_nonneg hn0], ⟨_, _, _, rfl⟩, by show ((0 : Nat) : Int) + _ = n; omega, HL1⟩
  case round =>
    obtain ⟨m, ss, hm, rfl, ⟨o0, o1, o2, rfl⟩, HK, HB⟩ := hrel
    cases m with
    | zero =>
      go_wp2_with fail
      go_ret
      have hB := HB.out
      exact ⟨_, ss, rfl, ⟨_, _, _, rfl⟩, by have := HK.out; omega, hB.ok, sls_of_ownT hB.row, hB.fr.1⟩
    | succ m =>
      have hm0 : (0 : Int) < ((m + 1 : Nat) : Int) := by omega
      go_wp2_with fail
      refine Calls.mono (ofP_lit pT P _ _ wr _ _ rfl HB.out.cu (by kernel_rfl) (by decide) (by decide) (by kernel_rfl)) ?_
      rintro e w2 ⟨t, rfl, ht, hS2⟩
      have hB2 := HB.out.read hP hS2
      obtain ⟨v4, w4, hrun, ⟨s0, s1, s2, rfl⟩, hB4⟩ := hB2.more (x := t) hP (by have := HK.out; omega) ht 23
      have HB4 : Hid (LyT P w w4 (.slice s0 s1 s2) (ss ++ [t])) := hB4
      have HK4 : Hid (((ss ++ [t]).length : Int) + m = n) := by
        have := HK.out
        show ((ss ++ [t]).length : Int) + m = n
        rw [List.length_append]
        simp only [List.length_cons, List.length_nil]
        omega
      have hm2 : (m : Int) ≤ n := by omega
      clear hB2 hB4 hS2 HB ht HK
      go_wp2_with (at_builtin; refine append_run rfl _ _ 23 rfl _ _ rfl rfl _ w4 hrun ?_)
      go_roundw
      case rel =>
        go_light
        exact ⟨m, ss ++ [t], hm2, by go_num, ⟨_, _, _, rfl⟩, HK4, HB4⟩
      case measure =>
        go_light
        simp [intOf]
theorem makeLines_anyT (a : Option Addr) (len cap : Nat) (w : World) (hb : Bs w.heap.size a len w) :
    Calls Try.prog 6 #[.slice a len cap] w (LinesPostT w.heap.size w) := by
  go_enter Try.func6, Try.ntmps6
  go_wp2_with fail
  refine (newC_any a len cap w hb).mono ?_
  rintro e w1 ⟨rfl, hC, hB⟩
  go_wp2_with fail
  refine (lines_anyT _ w1 hC).mono ?_
  rintro e w2 ⟨v, ss, rfl, ⟨v0, v1, v2, rfl⟩, hl, ho, hS, hB2⟩
  have HS : Hid (SlS w2 (.slice v0 v1 v2) ss) := hS
  have HO : Hid (∀ s ∈ ss, pT s = true) := ho
  clear hS ho
  go_wp2_with fail
  go_ret
  exact ⟨_, ss, rfl, ⟨_, _, _, rfl⟩, hl, HO.out, HS.out, hB.trans hB2⟩
end Go.Proofs.Ytfpkcfedkjjjbac
