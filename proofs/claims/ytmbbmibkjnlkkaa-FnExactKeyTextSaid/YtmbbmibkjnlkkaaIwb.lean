/- impl's walk over a stream: leave. -/
import Derived.Test.YtmbbmibkjnlkkaaIwa
import Derived.BigRegion
namespace Go.Proofs.Ytmbbmibkjnlkkaa
open Go.ChangeShapes Go.WideShapes Go.ChangeAt Go.RowKit
set_option maxHeartbeats 2000000 in
theorem leave_no (b : Nat) (c : Int) (ar : List Int) (w : World) (hW : Wk b c ar w) (h4 : c ≠ 4) (h5 : c ≠ 5) :
    Calls Try.prog 64 #[.pointer (some ⟨b, 0, none⟩)] w fun e w' => e = .returned (.bool false) ∧ Below b w w' := by
  obtain ⟨a, n, cp, h1, _⟩ := hW
  have c0 := h1.c0
  have t4 : (c != 4) = true := by rw [bne_iff_ne]; exact h4
  have t5 : (c != 5) = true := by rw [bne_iff_ne]; exact h5
  clear h1 h4 h5
  go_enter Try.func64, Try.ntmps64
  go_wp2_with fail
  go_ret
  exact ⟨rfl, Below.refl _ _⟩
set_option maxHeartbeats 8000000 in
theorem leave_yes (b : Nat) (c x : Int) (ar : List Int) (w : World) (hW : Wk b c (x :: ar) w) (hc : c = 4 ∨ c = 5) (hl : ar.length ≤ 100000000) :
    Calls Try.prog 64 #[.pointer (some ⟨b, 0, none⟩)] w fun e w' => e = .returned (.bool true) ∧ Wk b x ar w' ∧ Below b w w' := by
  obtain ⟨a, n, cp, h1, h2⟩ := hW
  rw [List.reverse_cons, show intV (ar.reverse ++ [x]) = intV ar.reverse ++ [.int .i64 x] from List.map_append] at h2
  obtain ⟨g, cq, hv, hn, hg1, hg2, hcq, hcell, hfz, hset, hrow⟩ := row_top h2
  have hlen : (intV ar.reverse).length = ar.length := by unfold intV; rw [List.length_map, List.length_reverse]
  rw [hlen] at hv hcell hrow
  injection hv with ha hn' hcp
  subst ha
  subst hcp
  subst hn'
  have hcq' : ar.length + 1 ≤ cp := by simp at hcq; exact hcq
  have c0 := h1.c0
  have c1 := h1.c1
  have f0 := h1.fz 0
  have f1 := h1.fz 1
  have HQ : Hid (Wk b x ar ((w.setCell ⟨b, 0, none⟩ (.int .i64 x)).setCell ⟨b, 1, none⟩ (.slice (some ⟨g, 0, none⟩) ar.length cp)) ∧ Below b w ((w.setCell ⟨b, 0, none⟩ (.int .i64 x)).setCell ⟨b, 1, none⟩ (.slice (some ⟨g, 0, none⟩) ar.length cp))) :=
    ⟨⟨_, _, _, (h1.set0 x).set1 _, row_past' (row_past' hrow)⟩, (below_set w).trans (below_set _)⟩
  have k1 := (h1.set0 x).c1
  have kf := (h1.set0 x).fz 1
  have hgb : g ≠ b := by omega
  obtain ⟨m, hm⟩ : ∃ m, ar.length = m := ⟨_, rfl⟩
  rw [hm] at hcell c1 k1 HQ hl hcq'
  have hD : c = 4 ∨ c = 5 := hc
  clear h1 h2 hrow hlen hm hcq hn hg1 hg2 hc hfz hset
  rcases hD with rfl | rfl
  all_goals
    go_enter Try.func64, Try.ntmps64
    go_wp2_with fail
    go_region
    all_goals (
      clear hcell c1 c0 k1 kf f0 f1 hgb
      go_wp2_with fail
      go_ret
      exact ⟨rfl, HQ.out.1.stays (Below.refl _ _).drew, HQ.out.2.drew⟩)
end Go.Proofs.Ytmbbmibkjnlkkaa
