/- The specification's l17Once and Match. -/
import Derived.Test.YtmbbmibkjnlkkaaDoorHsn
import Derived.Test.YtmbbmibkjnlkkaaDoorPso
import Derived.Test.YtmbbmibkjnlkkaaDoorHpb
import Derived.Test.YtmbbmibkjnlkkaaDoorPsh
import Derived.Deep.DeepCutAuto
namespace Go.Proofs.YtmbbmibkjnlkkaaDoor
open Go.ChangeShapes Go.WideShapes Go.ChangeAt Go.RowKit
theorem wrap64_lo (n : Int) (h0 : 0 ≤ n) (h1 : n ≤ 1048578) : wrap64 n = n := Go.IntWalk.wrap64_in n ⟨by omega, by omega⟩
theorem slP_row {w : World} {lo : Nat} {v : Value} {hs : List Sg} (h : w.ownsRow lo 29 3 v hs.length (cellsP hs)) : SgL w v hs := by
  by_cases hz : hs = []
  · subst hz
    left
    rcases h.2 with ⟨e, _⟩ | ⟨g, cap, cur, e, _⟩
    · exact ⟨rfl, _, _, e⟩
    · exact ⟨rfl, _, _, e⟩
  · right
    have hpos : 0 < hs.length := List.length_pos_iff.2 hz
    rcases h.2 with ⟨_, e⟩ | ⟨g, cap, cur, rfl, hb, hg, hn, hm, hsz, ht⟩
    · omega
    · refine ⟨hz, g, 0, cap, rfl, (Array.getElem?_eq_some_iff.1 hg).1, hn, fun i p hi j u hu => ?_⟩
      have hx := cellsP_at hi j u hu
      have a1 : (⟨g, 0, none⟩ : Addr).add (i * 3 + j) = ⟨g, 0 + i * 3 + j, none⟩ := by unfold Addr.add; split <;> simp_all <;> omega
      have h1 := h.cells (g := g) rfl (i * 3 + j) _ hx
      rw [a1] at h1
      exact h1
set_option maxRecDepth 100000 in
set_option maxHeartbeats 8000000 in
theorem once_any (w : World) (v : Value) (p : List Sg) (hV : SgL w v p) (hl : p.length ≤ 1048576) :
    Calls Tryd.prog 41 #[v] w fun e w' => ∃ v', e = .returned v' ∧ SgL w' v' (onceP p) ∧ Below w.heap.size w w' := by
  obtain ⟨a, c, rfl⟩ := hV.sl
  have HV : Hid (SgL w (.slice a p.length c) p ∧ p.length ≤ 1048576) := ⟨hV, hl⟩
  have HA0 : Hid (Below w.heap.size w (w.alloc (.cells #[] 29))) := (Below.refl _ w).alloc (Nat.le_refl _) _
  have HO0 : Hid ((w.alloc (.cells #[] 29)).ownsRow w.heap.size 29 3 (.slice (some ⟨w.heap.size, 0, none⟩) 0 0) ([] : List Sg).length (cellsP [])) := World.ownsRow_made w #[] 0 (Nat.le_refl _) (Nat.zero_le _) rfl
  clear hV hl
  go_enter Tryd.func41, Tryd.ntmps41
  go_wp2_with fail
  go_loopw [3, 9] (fun ov kv wr => ∃ (k : Nat) (oa : Option Addr) (on oc : Nat), ov = .slice oa on oc ∧ kv = .int .i64 (k : Int) ∧ k ≤ p.length ∧ Hid (wr.ownsRow w.heap.size 29 3 (.slice oa on oc) (onceK p k).length (cellsP (onceK p k))) ∧ Hid (Below w.heap.size w wr)) (fun _ kv _ => p.length - (intOf kv).toNat)
  case atStart => exact ⟨0, _, _, _, rfl, rfl, Nat.zero_le _, HO0, HA0⟩
  case round =>
    obtain ⟨k, oa, on, oc, rfl, rfl, hk, HO, HB⟩ := hrel
    clear HO0 HA0
    by_cases hlt : k < p.length
    case neg =>
      obtain rfl : k = p.length := by omega
      have hlt' : ¬ (p.length : Int) < (p.length : Int) := by omega
      go_wp2_with fail
      go_ret
      exact ⟨_, rfl, by rw [← onceK_eq]; exact slP_row HO.out, HB.out⟩
    have hlt' : (k : Int) < (p.length : Int) := by omega
    obtain ⟨s, hs⟩ : ∃ s, p[k]? = some s := ⟨_, List.getElem?_eq_getElem hlt⟩
    obtain ⟨b, off, e2, _, hE⟩ := HV.out.1.at HB.out hs
    subst e2
    obtain ⟨kind, n, text⟩ := s
    have c0 : wr.cell? ⟨b, off + k * 3, none⟩ = some (.int .i64 kind) := hE.c0
    have c1 : wr.cell? ⟨b, off + k * 3 + 1, none⟩ = some (.int .i64 n) := hE.c1
    have c2 : wr.cell? ⟨b, off + k * 3 + 2, none⟩ = some (.string text) := hE.c2
    clear hE
    obtain ⟨W, hW⟩ : ∃ W, wr.alloc (.cells #[.int .i64 kind, .int .i64 n, .string text] 29) = W := ⟨_, rfl⟩
    have HW : Hid (wr.alloc (.cells #[.int .i64 kind, .int .i64 n, .string text] 29) = W) := hW
    have hbW : Below wr.heap.size wr W := by rw [← hW]; exact (Below.refl _ wr).alloc (Nat.le_refl _) _
    have HBW : Hid (Below w.heap.size w W) := HB.out.trans (hbW.mono HB.out.size)
    have hn : W.heap[wr.heap.size]? = some (.cells #[.int .i64 kind, .int .i64 n, .string text] 29 (0, 0)) := by rw [← hW]; exact heap_alloc_new wr _
    obtain ⟨q0, q1, q2⟩ := row_atP hn
    have hown : W.ownsRow w.heap.size 29 3 (.slice oa on oc) (onceK p k).length (cellsP (onceK p k)) := by rw [← hW]; exact HO.out.alloc _
    have HOW : Hid (W.ownsRow w.heap.size 29 3 (.slice oa on oc) (onceK p k).length (cellsP (onceK p k))) := hown
    have hkl := onceK_len p k
    obtain ⟨v5, w5, hrun5, hsl5, hown5, hbel5, _, _⟩ := push_own2 (P := Tryd.prog) Tryd.underlying23 infoPz rfl (by decide) W w.heap.size _ _ _ hown #[.int .i64 kind, .int .i64 n, .string text] rfl (by intro u hu; simp at hu; rcases hu with rfl | rfl | rfl <;> rfl) (by have := HV.out.2; omega) (by omega) HBW.out.size 23
    obtain ⟨a5, n5, c5, rfl⟩ := hsl5
    have HO5 : Hid (w5.ownsRow w.heap.size 29 3 (.slice a5 n5 c5) (onceK p k ++ [(⟨kind, n, text⟩ : Sg)]).length (cellsP (onceK p k ++ [(⟨kind, n, text⟩ : Sg)]))) := by
      show World.ownsRow _ _ _ _ _ _ _
      rw [List.length_append, cellsP_snoc]
      exact hown5
    have HB5 : Hid (Below w.heap.size w w5) := HBW.out.trans hbel5
    clear hown hown5 hbel5 hkl hn
    cases k with
    | zero =>
      have HN : Hid (onceK p (0 + 1) = onceK p 0 ++ [(⟨kind, n, text⟩ : Sg)]) := by show onceK p 0 ++ (if dropAt p 0 then [] else p[0]?.toList) = _; rw [hs]; rfl
      clear hs hW hbW
      rw [Nat.zero_mul, Nat.add_zero] at c0 c1 c2
      go_upto_region 5 with fail
      rw [HW.out]
      go_wp2_with (at_builtin; refine append_run rfl _ _ 23 rfl _ _ rfl rfl _ w5 hrun5 ?_)
      go_roundw
      case rel => exact ⟨0 + 1, _, _, _, rfl, by go_num, hlt, by rw [HN.out]; exact HO5, HB5⟩
      case measure => simp [intOf]; omega
    | succ j =>
      obtain ⟨⟨xk, xn, xt⟩, hx⟩ : ∃ x, p[j]? = some x := ⟨_, List.getElem?_eq_getElem (by omega)⟩
      obtain ⟨b', off', e3, _, hX⟩ := HV.out.1.at HBW.out hx
      injection e3 with e3
      injection e3 with e3 e4
      subst e3 e4
      have x0 : W.cell? ⟨b, off + j * 3, none⟩ = some (.int .i64 xk) := hX.c0
      have HD : Hid (onceK p (j + 1 + 1) = onceK p (j + 1) ++ if decide (xk = 5) && decide (kind = 5) then [] else [(⟨kind, n, text⟩ : Sg)]) := by
        have hd : dropAt p (j + 1) = (decide (xk = 5) && decide (kind = 5)) := by
          unfold dropAt
          rw [hs, show j + 1 - 1 = j from rfl, hx]
          simp
        show onceK p (j + 1) ++ (if dropAt p (j + 1) then [] else p[j + 1]?.toList) = _
        rw [hd, hs]
        rfl
      have hj0 : ¬ ((j : Int) + 1 = 0) := by omega
      have hj1 : (j : Int) + 1 - 1 = (j : Int) := by omega
      have hjl : (j : Int) < (p.length : Int) := by omega
      have hj2 : (p.length : Int) ≤ 1048576 := by have := HV.out.2; omega
      clear hs hW hbW hX hx
      by_cases h5 : kind = 5
      case neg =>
        have t5 : (kind == 5) = false := by rw [beq_eq_false_iff_ne]; exact h5
        have HN : Hid (onceK p (j + 1 + 1) = onceK p (j + 1) ++ [(⟨kind, n, text⟩ : Sg)]) := by have := HD.out; rw [if_neg (by simp [h5])] at this; exact this
        clear HD x0
        go_upto_region 5 with fail
        rw [HW.out]
        go_wp2_with (at_builtin; refine append_run rfl _ _ 23 rfl _ _ rfl rfl _ w5 hrun5 ?_)
        go_roundw
        case rel => exact ⟨j + 1 + 1, _, _, _, rfl, by go_num, hlt, by rw [HN.out]; exact HO5, HB5⟩
        case measure => simp [intOf]; omega
      subst h5
      by_cases h6 : xk = 5
      case neg =>
        have t6 : (xk == 5) = false := by rw [beq_eq_false_iff_ne]; exact h6
        have t7 : (xk != 5) = true := by rw [bne, t6]; rfl
        have HN : Hid (onceK p (j + 1 + 1) = onceK p (j + 1) ++ [(⟨5, n, text⟩ : Sg)]) := by have := HD.out; rw [if_neg (by simp [h6])] at this; exact this
        clear HD
        go_upto_region 5 with fail
        rw [HW.out]
        go_wp2_with (at_builtin; refine append_run rfl _ _ 23 rfl _ _ rfl rfl _ w5 hrun5 ?_)
        go_roundw
        case rel => exact ⟨j + 1 + 1, _, _, _, rfl, by go_num, hlt, by rw [HN.out]; exact HO5, HB5⟩
        case measure => simp [intOf]; omega
      · rw [h6] at x0
        have HN : Hid (onceK p (j + 1 + 1) = onceK p (j + 1)) := by have := HD.out; rw [if_pos (by simp [h6]), List.append_nil] at this; exact this
        clear HD hrun5 HO5 HB5
        go_upto_region 5 with fail
        rw [HW.out]
        go_wp2_with fail
        go_roundw
        case rel => exact ⟨j + 1 + 1, _, _, _, rfl, by go_num, hlt, by rw [HN.out]; exact HOW, HBW⟩
        case measure => simp [intOf]; omega
end Go.Proofs.YtmbbmibkjnlkkaaDoor
