/- Whether two lists of ints are alike: spec.l15Ints. -/
import Derived.Test.YtgaibajkegfpoaaGov
namespace Go.Proofs.Ytgaibajkegfpoaa
open Go.ChangeShapes Go.WideShapes Go.ChangeAt Go.RowKit Go.Deep
set_option maxHeartbeats 4000000 in
theorem l15Ints_any (v u : Value) (p q : List Int) (w : World) (hV : IlAt w v p) (hU : IlAt w u q) (hp : p.length ≤ 1048576) (hq : q.length ≤ 1048576) :
    Calls Try.prog 55 #[v, u] w fun e w' => e = .returned (.bool (decide (p = q))) ∧ Below w.heap.size w w' := by
  obtain ⟨a, c, rfl⟩ := hV.sl
  obtain ⟨a2, c2, rfl⟩ := hU.sl
  have hp' : (p.length : Int) ≤ 1048576 := by omega
  have hq' : (q.length : Int) ≤ 1048576 := by omega
  by_cases hl : p.length = q.length
  case neg =>
    have HO : Hid (decide (p = q) = false) := decide_eq_false (fun e => hl (by rw [e]))
    have tl : ((p.length : Int) != (q.length : Int)) = true := by rw [bne_iff_ne]; omega
    clear hV hU hl
    go_enter Try.func55, Try.ntmps55
    go_wp2_with fail
    go_ret
    exact ⟨congrArg (fun b => Ending.returned (.bool b)) HO.out.symm, Below.refl _ _⟩
  have HV : Hid (IlAt w (.slice a p.length c) p) := hV
  have HU : Hid (IlAt w (.slice a2 q.length c2) q) := hU
  have tl : ((p.length : Int) != (q.length : Int)) = false := by rw [hl]; simp
  have HL : Hid (p.length = q.length) := hl
  rw [← hl] at hq' tl ⊢
  clear hV hU hl hq
  go_enter Try.func55, Try.ntmps55
  go_wp2_with fail
  go_loopw [13] (fun kv wr => ∃ k : Nat, k ≤ p.length ∧ kv = .int .i64 (k : Int) ∧ Hid (∀ j, j < k → p[j]? = q[j]?) ∧ Hid (Below w.heap.size w wr)) (fun kv _ => p.length - (intOf kv).toNat)
  case atStart => exact ⟨0, Nat.zero_le _, rfl, fun j h => by omega, Below.refl _ _⟩
  case round =>
    obtain ⟨k, hk, rfl, HA, HB⟩ := hrel
    by_cases hlt : k < p.length
    · have hlt' : (k : Int) < (p.length : Int) := by omega
      obtain ⟨x, hx⟩ : ∃ n, p[k]? = some n := ⟨_, List.getElem?_eq_getElem hlt⟩
      obtain ⟨y, hy⟩ : ∃ n, q[k]? = some n := ⟨_, List.getElem?_eq_getElem (by rw [← HL.out]; exact hlt)⟩
      obtain ⟨b, o, rfl, _, d1⟩ := (HV.out.later HB.out).at hx
      obtain ⟨b2, o2, rfl, _, d2⟩ := (HU.out.later HB.out).at hy
      have HX : Hid (p[k]? = some x ∧ q[k]? = some y) := ⟨hx, hy⟩
      clear hx hy
      by_cases e : x = y
      · subst e
        have tn : (x != x) = false := by simp
        have HA2 : Hid (∀ j, j < k + 1 → p[j]? = q[j]?) := fun j hj => by
          by_cases e : j = k
          · subst e
            rw [HX.out.1, HX.out.2]
          · exact HA.out j (by omega)
        clear HA HX
        go_wp2_with fail
        go_quiet (fail)
        have HB2 : Hid (Below w.heap.size w (wr.drewN nq)) := HB.out.trans ((g_below_drewN wr _).mono HB.out.size)
        clear HB
        go_wp2_with fail
        go_roundw
        case rel => exact ⟨k + 1, hlt, by go_num, HA2, HB2⟩
        case measure => simp [intOf]; omega
      · have tn : (x != y) = true := by rw [bne_iff_ne]; exact e
        have HO : Hid (decide (p = q) = false) := decide_eq_false (fun h => e (by
          have h1 := HX.out.1
          rw [h, HX.out.2] at h1
          exact (by simpa using h1.symm)))
        clear e HA HX
        go_wp2_with fail
        go_quiet (fail)
        have HB2 : Hid (Below w.heap.size w (wr.drewN nq)) := HB.out.trans ((g_below_drewN wr _).mono HB.out.size)
        clear HB
        go_wp2_with fail
        go_ret
        exact ⟨congrArg (fun b => Ending.returned (.bool b)) HO.out.symm, HB2.out⟩
    · have hge : ¬ (k : Int) < (p.length : Int) := by omega
      have HO : Hid (decide (p = q) = true) := decide_eq_true (List.ext_getElem? (fun j => by
        by_cases hj : j < k
        · exact HA.out j hj
        · rw [List.getElem?_eq_none (by omega), List.getElem?_eq_none (by have := HL.out; omega)]))
      clear HA
      go_wp2_with fail
      go_ret
      exact ⟨congrArg (fun b => Ending.returned (.bool b)) HO.out.symm, HB.out⟩
end Go.Proofs.Ytgaibajkegfpoaa
