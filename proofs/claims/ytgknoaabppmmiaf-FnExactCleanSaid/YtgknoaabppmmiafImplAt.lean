/- impl.RuneAt answers what ra says, and changes nothing that was there. -/
import Derived.Test.YtgknoaabppmmiafAt
import Derived.WalkKit
import Derived.ProofKit
import Derived.WalkLawsBesides
import Derived.WalkSpells
import Derived.Below
import Derived.LoopN
import Derived.Laws.RangeAny
import Derived.Deep.QuietTactic
import Derived.BigQuiet
namespace Go.Proofs.Ytgknoaabppmmiaf
open Go.ChangeShapes Go.WideShapes Go.ChangeAt Go.RowKit
theorem bt_tail (s : ByteArray) (q i : Nat) (hq : q ≤ s.size) : bt (s.extract q s.size) i = bt s (q + i) := by
  unfold bt
  congr 2
  show (s.extract q s.size).data[i]! = s.data[q + i]!
  have hz : (s.extract q s.size).data.size = s.size - q := by
    show (s.extract q s.size).size = _
    rw [ByteArray.size_extract]; omega
  by_cases h : q + i < s.size
  · rw [getElem!_pos (s.extract q s.size).data i (by omega), getElem!_pos s.data (q + i) h]
    simp [ByteArray.data_extract]
  · rw [getElem!_neg (s.extract q s.size).data i (by omega), getElem!_neg s.data (q + i) h]
theorem ra_tail (s : ByteArray) (q : Nat) (hq : q ≤ s.size) : ra (s.extract q s.size) 0 = ra s q := by
  have hz : (s.extract q s.size).size = s.size - q := by rw [ByteArray.size_extract]; omega
  unfold ra
  rw [hz]
  simp only [bt_tail s q _ hq, Nat.zero_add, Nat.add_zero]
  have e0 : (0 < s.size - q) = (q < s.size) := propext (by omega)
  have e1 : (1 < s.size - q) = (q + 1 < s.size) := propext (by omega)
  have e2 : (2 < s.size - q) = (q + 2 < s.size) := propext (by omega)
  have e3 : (3 < s.size - q) = (q + 3 < s.size) := propext (by omega)
  simp only [e0, e1, e2, e3]
theorem ret2 {a b c d : Int} (h : a = c) (h' : b = d) : Ending.returned (.tuple #[.int .i64 a, .int .i64 b]) = .returned (.tuple #[.int .i64 c, .int .i64 d]) := by rw [h, h']
theorem stands_0 (s : ByteArray) (r : Int) (w : World) (b : Bool) (hb : stB s 0 r = b) :
    Calls Try.prog 14 #[.string s, .int .i64 0, .int .i32 r] w fun e w' => e = .returned (.bool b) ∧ ∃ n, w' = w.drewN n := by
  subst hb; exact stands_any s 0 r w (Nat.zero_le _)
theorem iter_below (w : World) (t : ByteArray) (i n : Nat) : Below w.heap.size w ((w.iter t i).drewN n) :=
  below_drewN ((Below.refl _ w).alloc (Nat.le_refl _) _) n
theorem impl_ra_end (s : ByteArray) (p : Int) (w : World) (hs : s.size ≤ maxLen) (h : ¬ cl s.size p < s.size) :
    Calls Try.prog 9 #[.string s, .int .i64 p] w fun e w' => e = .returned (.tuple #[.int .i64 (ra s (cl s.size p)).1, .int .i64 (ra s (cl s.size p)).2]) ∧ Below w.heap.size w w' := by
  have hcl := cl_le s.size p
  have hraH : Hid (ra s (cl s.size p) = (0, 0)) := by unfold ra; rw [if_neg h]; exact rfl
  have hnext : ∀ w : World, (Instr.next (.pointer (some ⟨w.heap.size, 0, none⟩)) true 0).run Try.prog (w.iter (s.extract (cl s.size p) s.size) 0) = .ok (.tuple #[.bool false]) (w.iter (s.extract (cl s.size p) s.size) 0) := by
    intro w; exact run_next_end w _ 0 0 (by rw [ByteArray.size_extract]; omega)
  unfold maxLen at hs
  go_enter Try.func9, Try.ntmps9
  go_wp2_with (first | (go_at_call 13; refine (bring_any _ _ _ hs).mono ?_; rintro e w1 ⟨rfl, rfl⟩))
  refine wp_loop_rounds 1 ?_
  rw [rounds_succ]
  go_wp2
  go_ret2
  refine ⟨ret2 (by rw [hraH.out]) (by rw [hraH.out]), iter_below w1 _ 0 0⟩

theorem impl_ra_bad (s : ByteArray) (p : Int) (w : World) (hs : s.size ≤ maxLen) (h : cl s.size p < s.size) (h0 : ra s (cl s.size p) = (0, 0)) (hd : Utf8.decode (s.extract (cl s.size p) s.size) 0 = (65533, 1)) :
    Calls Try.prog 9 #[.string s, .int .i64 p] w fun e w' => e = .returned (.tuple #[.int .i64 (ra s (cl s.size p)).1, .int .i64 (ra s (cl s.size p)).2]) ∧ Below w.heap.size w w' := by
  have hcl := cl_le s.size p
  have hraH : Hid (ra s (cl s.size p) = (0, 0)) := h0
  have hstH : Hid (stB (s.extract (cl s.size p) s.size) 0 65533 = false) := by
    show stB (s.extract (cl s.size p) s.size) 0 65533 = false
    unfold stB; rw [ra_tail s _ hcl, h0]; simp
  clear h0
  have hnext : ∀ w : World, (Instr.next (.pointer (some ⟨w.heap.size, 0, none⟩)) true 0).run Try.prog (w.iter (s.extract (cl s.size p) s.size) 0) = .ok (.tuple #[.bool true, .int .i64 0, .int .i32 65533]) (w.iter (s.extract (cl s.size p) s.size) 1) := by
    intro w
    have := run_next_any (P := Try.prog) w (s.extract (cl s.size p) s.size) 0 0 (by rw [ByteArray.size_extract]; omega)
    rw [hd] at this
    exact this
  clear hd
  unfold maxLen at hs
  go_enter Try.func9, Try.ntmps9
  go_wp2_with (first | (go_at_call 13; refine (bring_any _ _ _ hs).mono ?_; rintro e w1 ⟨rfl, rfl⟩))
  refine wp_loop_rounds 1 ?_
  rw [rounds_succ]
  go_wp2_with fail
  refine (stands_0 (s.extract (cl s.size p) s.size) 65533 _ false hstH.out).mono ?_
  rintro e w2 ⟨rfl, n, rfl⟩
  go_wp2
  go_ret2
  refine ⟨ret2 (by rw [hraH.out]) (by rw [hraH.out]), iter_below _ _ 1 n⟩
theorem impl_ra_good (s : ByteArray) (p : Int) (w : World) (hs : s.size ≤ maxLen) (h : cl s.size p < s.size) (c k : Int) (hc : 0 ≤ c ∧ c ≤ 1114111) (h0 : ra s (cl s.size p) = (c, k)) (hd : Utf8.decode (s.extract (cl s.size p) s.size) 0 = (c.toNat, k.toNat)) (hz : k = (rb c).size) :
    Calls Try.prog 9 #[.string s, .int .i64 p] w fun e w' => e = .returned (.tuple #[.int .i64 (ra s (cl s.size p)).1, .int .i64 (ra s (cl s.size p)).2]) ∧ Below w.heap.size w w' := by
  have hcl := cl_le s.size p
  have hraH : Hid (ra s (cl s.size p) = (c, k)) := h0
  have hstH : Hid (stB (s.extract (cl s.size p) s.size) 0 c = true) := by
    show stB (s.extract (cl s.size p) s.size) 0 c = true
    unfold stB; rw [ra_tail s _ hcl, h0, decide_eq_true_eq]
    rintro rfl
    rw [hz]; rfl
  have hzH : Hid (k = (rb c).size) := hz
  obtain ⟨c0, c1⟩ := hc
  clear h0 hz
  have hnext : ∀ w : World, (Instr.next (.pointer (some ⟨w.heap.size, 0, none⟩)) true 0).run Try.prog (w.iter (s.extract (cl s.size p) s.size) 0) = .ok (.tuple #[.bool true, .int .i64 0, .int .i32 c]) (w.iter (s.extract (cl s.size p) s.size) k.toNat) := by
    intro w
    have := run_next_any (P := Try.prog) w (s.extract (cl s.size p) s.size) 0 0 (by rw [ByteArray.size_extract]; omega)
    rw [hd, Nat.zero_add] at this
    simp only [Int.toNat_of_nonneg c0] at this
    exact this
  clear hd
  unfold maxLen at hs
  go_enter Try.func9, Try.ntmps9
  go_wp2_with (first | (go_at_call 13; refine (bring_any _ _ _ hs).mono ?_; rintro e w1 ⟨rfl, rfl⟩))
  refine wp_loop_rounds 1 ?_
  rw [rounds_succ]
  go_wp2_with fail
  refine (stands_0 (s.extract (cl s.size p) s.size) c _ true hstH.out).mono ?_
  rintro e w2 ⟨rfl, n, rfl⟩
  go_wp2_with fail
  refine (impl_rb c _).mono ?_
  rintro e w2 ⟨rfl, rfl⟩
  go_wp2
  go_ret2
  refine ⟨ret2 (by rw [hraH.out]) (by rw [hraH.out]; exact hzH.out.symm), iter_below _ _ _ n⟩
theorem impl_ra (s : ByteArray) (p : Int) (w : World) (hs : s.size ≤ maxLen) :
    Calls Try.prog 9 #[.string s, .int .i64 p] w fun e w' => e = .returned (.tuple #[.int .i64 (ra s (cl s.size p)).1, .int .i64 (ra s (cl s.size p)).2]) ∧ Below w.heap.size w w' := by
  by_cases h : cl s.size p < s.size
  · have hz : (s.extract (cl s.size p) s.size).size = s.size - cl s.size p := by rw [ByteArray.size_extract]; omega
    have ht := ra_tail s _ (cl_le s.size p)
    rcases decode_ra (s.extract (cl s.size p) s.size) 0 (by omega) with ⟨a, b⟩ | ⟨_, _, a3, a4, a5, a6, _⟩
    · exact impl_ra_bad s p w hs h (by rw [← ht]; exact a) b
    · rw [ht] at a3 a4 a5 a6
      exact impl_ra_good s p w hs h _ _ ⟨a3, a4⟩ rfl a5 a6
  · exact impl_ra_end s p w hs h
end Go.Proofs.Ytgknoaabppmmiaf
