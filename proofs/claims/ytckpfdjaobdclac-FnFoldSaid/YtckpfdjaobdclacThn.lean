/- The law's thin: a text without breaks and blanks. -/
import Derived.Test.YtckpfdjaobdclacPsh
import Derived.Test.YtckpfdjaobdclacSls
import Derived.Test.YtckpfdjaobdclacProg
import Derived.WalkLawsBesides
import Derived.WalkSpells
import Derived.WalkMore
import Derived.Laws.BytesArg
import Derived.Deep.Light
namespace Go.Proofs.Ytckpfdjaobdclac
open Go.ChangeShapes Go.WideShapes Go.ChangeAt Go.RowKit
def pT (c : UInt8) : Bool := c != 10 && c != 32
def thinB (s : ByteArray) : ByteArray := ⟨(s.data.toList.filter pT).toArray⟩
def numL (l : List UInt8) : List Int := l.map fun b => (b.toNat : Int)
def cells8 (zs : List Int) : List Value := zs.map (Value.int .u8)
theorem str_numL (l : List UInt8) : strOfNums (numL l) = ⟨l.toArray⟩ := by
  unfold strOfNums numL
  congr 2
  rw [List.map_map]
  induction l with
  | nil => rfl
  | cons a t ih =>
    rw [List.map_cons, ih]
    congr 1
    show UInt8.ofNat ((a.toNat : Int)).toNat = a
    rw [Int.toNat_natCast, UInt8.ofNat_toNat]
theorem conv_row (w : World) (lo : Nat) (v : Value) (zs : List Int) (h : w.ownsRow lo 5 1 v zs.length (cells8 zs)) : (convert 22 9 v).run Try.prog w = .ok (.string (strOfNums zs)) w := by
  rcases h.2 with ⟨rfl, h0⟩ | ⟨g, cap, cur, rfl, _, hg, hn, _, hs, ht⟩
  · obtain rfl : zs = [] := List.length_eq_zero_iff.1 h0
    exact run_convert_bytes_nil w 22 5 Try.underlying22 Try.underlying5 0 0 9 Try.underlying9
  · refine run_convert_bytes_arg w 22 5 Try.underlying22 Try.underlying5 g 0 zs.length cap zs rfl (fun i hi => ?_) 9 Try.underlying9
    have := h.cells (g := g) rfl i (.int .u8 (zs.getD i 0)) (by unfold cells8; simp [hi])
    by_cases e : i = 0
    · subst e; simpa [Addr.add] using this
    · simpa [Addr.add, e] using this
theorem info8 : (Try.prog.info? 5).map (fun i => (i.zero, i.size, i.bytes)) = some (some (.int .u8 0), 1, 1) := by kernel_rfl
theorem take_snoc (s : ByteArray) (k : Nat) (h : k < s.size) : s.data.toList.take (k + 1) = s.data.toList.take k ++ [s[k]'h] := by
  have h' : k < s.data.toList.length := by rw [Array.length_toList]; exact h
  rw [List.take_add_one, List.getElem?_eq_getElem h']
  rfl
set_option maxHeartbeats 4000000 in
theorem thin_ (s : ByteArray) (w : World) (t : ByteArray) (hs : s.size ≤ 900000) (ht : thinB s = t) :
    Calls Try.prog 7 #[.string s] w fun e w' => e = .returned (.string t) ∧ Below w.heap.size w w' := by
  have HT : Hid (thinB s = t) := ht
  clear ht
  go_enter Try.func7, Try.ntmps7
  go_wp2_with fail
  go_loopw [3, 4] (fun ov iv wr => ∃ (k : Nat) (l : List UInt8), k ≤ s.size ∧ iv = .int .i64 k ∧ isSl' ov ∧ Hid (l = (s.data.toList.take k).filter pT) ∧ Hid (wr.ownsRow w.heap.size 5 1 ov (numL l).length (cells8 (numL l))) ∧ Hid (l.length ≤ k) ∧ Below w.heap.size w wr) (fun _ iv _ => s.size - (intOf iv).toNat)
  case atStart => exact ⟨0, [], Nat.zero_le _, rfl, ⟨_, _, _, rfl⟩, rfl, World.ownsRow_made w #[] 0 (Nat.le_refl _) (by unfold maxLen; omega) rfl, Nat.le_refl _, (Below.refl _ _).alloc (Nat.le_refl _) _⟩
  case round =>
    obtain ⟨k, l, hk, rfl, ⟨o0, o1, o2, rfl⟩, HLQ, HOW, HLE, hb⟩ := hrel
    by_cases hlt : k < s.size
    · have hlt' : (k : Int) < (s.size : Int) := by omega
      have HS1 : Hid ((s.data.toList.take (k + 1)).filter pT = l ++ (if pT (s[k]'hlt) = true then [s[k]'hlt] else [])) := by
        show (s.data.toList.take (k + 1)).filter pT = _
        rw [take_snoc s k hlt, List.filter_append, ← HLQ.out]
        congr 1
        cases h : pT (s[k]'hlt) <;> simp [h]
      have HLE2 : Hid (l.length ≤ k + 1) := by have := HLE.out; show l.length ≤ k + 1; omega
      by_cases h10 : (s[k]'hlt).toNat = 10
      · have HS2 : Hid (l = (s.data.toList.take (k + 1)).filter pT) := by
          show l = _
          rw [HS1.out, if_neg, List.append_nil]
          have : s[k]'hlt = 10 := by apply UInt8.toNat_inj.1; exact h10
          rw [this]; decide
        have h10' : (((s[k]'hlt).toNat : Int) != 10) = false := by rw [h10]; rfl
        clear HS1 h10
        go_wp2_with fail
        go_roundw
        case rel => exact ⟨k + 1, l, hlt, by go_num, ⟨_, _, _, rfl⟩, HS2, HOW, HLE2, hb⟩
        case measure => simp [intOf]; omega
      · have h10' : (((s[k]'hlt).toNat : Int) != 10) = true := by rw [bne_iff_ne]; omega
        by_cases h32 : (s[k]'hlt).toNat = 32
        · have HS2 : Hid (l = (s.data.toList.take (k + 1)).filter pT) := by
            show l = _
            rw [HS1.out, if_neg, List.append_nil]
            have : s[k]'hlt = 32 := by apply UInt8.toNat_inj.1; exact h32
            rw [this]; decide
          have h32' : (((s[k]'hlt).toNat : Int) != 32) = false := by rw [h32]; rfl
          clear HS1 h10 h32
          go_wp2_with fail
          go_roundw
          case rel => exact ⟨k + 1, l, hlt, by go_num, ⟨_, _, _, rfl⟩, HS2, HOW, HLE2, hb⟩
          case measure => simp [intOf]; omega
        · have h32' : (((s[k]'hlt).toNat : Int) != 32) = true := by rw [bne_iff_ne]; omega
          have HS2 : Hid (l ++ [s[k]'hlt] = (s.data.toList.take (k + 1)).filter pT) := by
            show l ++ [s[k]'hlt] = _
            rw [HS1.out, if_pos]
            unfold pT
            rw [Bool.and_eq_true, bne_iff_ne, bne_iff_ne]
            exact ⟨fun e => h10 (by rw [e]; rfl), fun e => h32 (by rw [e]; rfl)⟩
          have hrow := HOW.out
          obtain ⟨v4, w4, hrun, ⟨s0, s1, s2, rfl⟩, hown, hbel, _⟩ := push_own (P := Try.prog) Try.underlying22 info8 rfl (by decide) wr w.heap.size (.slice o0 o1 o2) _ _ hrow #[.int .u8 ((s[k]'hlt).toNat : Int)] rfl (by intro u hu; simp at hu; subst hu; rfl) (by have := HLE.out; unfold numL; rw [List.length_map]; omega) (by omega) hb.size 22
          have HOW4 : Hid (w4.ownsRow w.heap.size 5 1 (.slice s0 s1 s2) (numL (l ++ [s[k]'hlt])).length (cells8 (numL (l ++ [s[k]'hlt])))) := by
            have e : numL (l ++ [s[k]'hlt]) = numL l ++ [((s[k]'hlt).toNat : Int)] := by unfold numL; rw [List.map_append]; rfl
            have e2 : cells8 (numL l ++ [((s[k]'hlt).toNat : Int)]) = cells8 (numL l) ++ [.int .u8 ((s[k]'hlt).toNat : Int)] := by unfold cells8; rw [List.map_append]; rfl
            show w4.ownsRow _ _ _ _ _ _
            rw [e, e2, List.length_append]
            exact hown
          have hb4 : Below w.heap.size w w4 := hb.trans hbel
          have HLE4 : Hid ((l ++ [s[k]'hlt]).length ≤ k + 1) := by have := HLE.out; show (l ++ [s[k]'hlt]).length ≤ k + 1; rw [List.length_append]; simp; omega
          clear HS1 h10 h32 hrow hown hbel HOW HLE HLE2 HLQ hb
          go_wp2_with (at_builtin; refine append_run rfl _ _ 22 rfl _ _ rfl rfl _ w4 hrun ?_)
          go_roundw
          case rel =>
            go_light
            exact ⟨k + 1, _, hlt, by go_num, ⟨_, _, _, rfl⟩, HS2, HOW4, HLE4, hb4⟩
          case measure =>
            go_light
            simp [intOf]; omega
    · have ek : k = s.size := by omega
      have hlt' : ¬ (k : Int) < (s.size : Int) := by omega
      have hcv := conv_row wr w.heap.size (.slice o0 o1 o2) (numL l) HOW.out
      have hT2 : strOfNums (numL l) = t := by
        rw [str_numL, ← HT.out, HLQ.out, ek]
        unfold thinB
        rw [List.take_of_length_le (by rw [Array.length_toList]; exact Nat.le_refl _)]
      rw [hT2] at hcv
      clear ek hT2 HLQ HLE
      go_wp2_with fail
      go_ret
      exact ⟨rfl, hb⟩
end Go.Proofs.Ytckpfdjaobdclac
