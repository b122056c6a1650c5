/- The contract of impl.cutDeep. -/
import Derived.Test.YtmbbmibkjnlkkaaDoorJld
namespace Go.Proofs.YtmbbmibkjnlkkaaDoor
open Go.ChangeShapes Go.WideShapes Go.ChangeAt Go.RowKit
/-- A pattern up to its first deep step, and what is behind that. -/
def cutH : List Sg → List Sg
  | [] => []
  | s :: p => if s.kind = 5 then [] else s :: cutH p
def cutR : List Sg → Option (List Sg)
  | [] => none
  | s :: p => if s.kind = 5 then some p else cutR p
theorem cut_step {s : Sg} {p : List Sg} (h : s.kind ≠ 5) : cutH (s :: p) = s :: cutH p ∧ cutR (s :: p) = cutR p := ⟨if_neg h, if_neg h⟩
theorem cut_here {s : Sg} {p : List Sg} (h : s.kind = 5) : cutH (s :: p) = [] ∧ cutR (s :: p) = some p := ⟨if_pos h, if_pos h⟩
theorem StL.cap {w : World} {a : Option Addr} {c n : Nat} {es : List Sg} (h : StL w (.slice a n c) es) (h0 : es ≠ []) : es.length ≤ c := by
  rcases h with ⟨e, _⟩ | ⟨_, b, off, c2, e, hlt, hc, hh⟩
  · exact absurd e h0
  · injection e with e1 e2 e3
    rw [e3]; exact hc
/-- What cutDeep answers of a pattern. -/
def CutA (p : List Sg) (w0 w : World) (e : Ending) (w' : World) : Prop :=
  ∃ hv rv, e = .returned (.tuple #[hv, rv, .bool (cutR p).isSome]) ∧ StL w0 hv (cutH p) ∧ StL w0 rv ((cutR p).getD []) ∧ Below w.heap.size w w'
set_option maxRecDepth 100000 in
set_option maxHeartbeats 8000000 in
theorem cutDeep_any (w0 w : World) (h0 : Below w0.heap.size w0 w) (pv : Value) (p : List Sg) (hP : StL w0 pv p) (hp : okS p) (np : p.length ≤ 1048576) :
    Calls Tryd.prog 52 #[pv] w fun e w' => CutA p w0 w e w' := by
  obtain ⟨pa, pc, rfl⟩ := hP.sl
  have HB0 : Hid (Below w0.heap.size w0 w) := h0
  have HP : Hid (StL w0 (.slice pa p.length pc) p ∧ okS p) := ⟨hP, hp⟩
  have pI : (p.length : Int) ≤ 1048576 := by omega
  clear hP hp np h0
  go_enter Tryd.func52, Tryd.ntmps52
  go_wp2_with fail
  go_loopw [11] (fun kv wr => ∃ k : Nat, kv = .int .i64 (k : Int) ∧ k ≤ p.length ∧ Hid (cutH p = p.take k ++ cutH (p.drop k) ∧ cutR p = cutR (p.drop k) ∧ Below w.heap.size w wr)) (fun kv _ => p.length - (intOf kv).toNat)
  case atStart => exact ⟨0, rfl, Nat.zero_le _, by simp, rfl, Below.refl _ _⟩
  case round =>
    obtain ⟨k, rfl, hk, HR⟩ := hrel
    by_cases hlt : k < p.length
    case neg =>
      obtain rfl : k = p.length := by omega
      have hlt' : ¬ (p.length : Int) < (p.length : Int) := by omega
      have HO : Hid (CutA p w0 w (.returned (.tuple #[.slice pa p.length pc, .slice none 0 0, .bool false])) wr) := by
        have h := HR.out
        rw [List.take_length, List.drop_length] at h
        have h1 : cutH p = p := by rw [h.1]; show p ++ [] = p; simp
        have h2 : cutR p = none := h.2.1
        refine ⟨_, _, by rw [h2]; rfl, ?_, ?_, h.2.2⟩
        · rw [h1]; exact HP.out.1
        · rw [h2]; exact StL.nil _ _ _
      clear HR hlt hk
      go_wp2_with fail
      go_ret3
      exact HO.out
    have hlt' : (k : Int) < (p.length : Int) := by omega
    obtain ⟨s, hs⟩ : ∃ s, p[k]? = some s := ⟨_, List.getElem?_eq_getElem hlt⟩
    have os := HP.out.2 s (List.mem_of_getElem? hs)
    have hA := fun u => step_deep s u os
    obtain ⟨W, hW⟩ : ∃ W, wr.alloc (.cells #[] 100) = W := ⟨_, rfl⟩
    have hbW : Below wr.heap.size wr W := by rw [← hW]; exact (Below.refl _ wr).alloc (Nat.le_refl _) _
    have HBW : Hid (Below w.heap.size w W) := HR.out.2.2.trans (hbW.mono HR.out.2.2.size)
    obtain ⟨b, off, rfl, c0⟩ := HP.out.1.at (HB0.out.trans (HR.out.2.2.mono HB0.out.size)) hs
    have HW : Hid (wr.alloc (.cells #[] 100) = W) := hW
    have HLT : Hid (k < p.length) := hlt
    have HS : Hid (p[k]? = some s) := hs
    generalize stepV s = sv at *
    clear os hs hW hbW hlt hk
    by_cases h5 : s.kind = 5
    · rw [decide_eq_true h5] at hA
      have hcap := HP.out.1.cap (fun e => by rw [e] at HS; have := HS.out; simp at this)
      have hk1 : (k : Int) + 1 ≤ (p.length : Int) := by omega
      have hk2 : (k : Int) + 1 ≤ (pc : Int) := by omega
      have hk3 : (k : Int) ≤ (pc : Int) := by omega
      have HQ : Hid (∀ (x : Option Addr) (c2 c' : Nat) (u : World), Below w.heap.size w u → k ≤ c2 → (k + 1 < p.length → x = some ⟨b, off + (k + 1), none⟩) → p.length - (k + 1) ≤ c' → CutA p w0 w (.returned (.tuple #[.slice (some ⟨b, off, none⟩) k c2, .slice x (p.length - (k + 1)) c', .bool true])) u) := by
        intro x c2 c' u hu hc2 hx hc'
        obtain ⟨h1, h2, -⟩ := HR.out
        have hlt := HLT.out
        rw [drop_at HS.out, (cut_here h5).1, List.append_nil] at h1
        rw [drop_at HS.out, (cut_here h5).2] at h2
        refine ⟨_, _, by rw [h2]; rfl, ?_, ?_, hu⟩
        · have := HP.out.1.part 0 k (Nat.zero_le _) (by omega) (some ⟨b, off, none⟩) (fun _ b' off' e => by rw [Nat.add_zero]; exact e) c2 (by omega)
          rw [h1]
          exact this
        · have := HP.out.1.part (k + 1) p.length (by omega) (Nat.le_refl _) x (fun h b' off' e => by injection e with e; injection e with e1 e2; rw [hx h, e1, e2]) c' hc'
          rw [h2]
          rwa [List.take_length] at this
      clear h5 HR
      go_wp2_with fail
      rw [HW.out]
      have hne := Bw.some W
      refine wp_region_bw (w0 := W) (by kernel_rfl) (by kernel_rfl) (Below.refl _ _) ?_
      repeat (go_big_quiet_step (fail))
      refine wpQuiet_nil ?_
      rintro _ ⟨m, rfl⟩
      have HO : Hid (Below w.heap.size w m.val) := HBW.out.trans (m.ok.mono HBW.out.size)
      generalize m.val = w2 at *
      clear hne
      go_wp2_with fail
      all_goals (
        go_ret3
        first
          | exact HQ.out _ _ _ _ HO.out (by omega) (fun _ => rfl) (by omega)
          | exact HQ.out _ _ _ _ HO.out (by omega) (fun h => absurd h (by omega)) (by omega)
          | (trace_state; sorry))
    · rw [decide_eq_false h5] at hA
      have HO : Hid (cutH p = p.take (k + 1) ++ cutH (p.drop (k + 1)) ∧ cutR p = cutR (p.drop (k + 1)) ∧ Below w.heap.size w W) := by
        obtain ⟨h1, h2, -⟩ := HR.out
        rw [drop_at HS.out, (cut_step h5).1] at h1
        rw [drop_at HS.out, (cut_step h5).2] at h2
        refine ⟨?_, h2, HBW.out⟩
        rw [h1, List.take_add_one, HS.out]
        simp
      clear h5 HR
      go_wp2_with fail
      rw [HW.out]
      go_roundw
      case rel => exact ⟨k + 1, by go_num, HLT.out, HO⟩
      case measure => have := HLT.out; simp [intOf]; omega
end Go.Proofs.YtmbbmibkjnlkkaaDoor
