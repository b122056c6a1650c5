/- The program's SameGraph. -/
import Derived.Test.YtgaibajkegfpoaaGvg
import Derived.Test.YtgaibajkegfpoaaLsm
namespace Go.Proofs.Ytgaibajkegfpoaa
open Go.ChangeShapes Go.WideShapes Go.ChangeAt Go.RowKit Go.Deep
theorem nd_eq {x y : Nd} (h : ndSame x y = true) : x = y := by
  obtain ⟨k, t, u, l⟩ := x
  obtain ⟨k', t', u', l'⟩ := y
  unfold ndSame at h
  simp only [Bool.and_eq_true, decide_eq_true_eq] at h
  obtain ⟨rfl, rfl, rfl, rfl⟩ := h
  rfl
theorem nds_eq : ∀ {a b : List Nd}, a.length = b.length → ndsSame a b = true → a = b
  | [], [], _, _ => rfl
  | [], _ :: _, h, _ => by simp at h
  | _ :: _, [], h, _ => by simp at h
  | x :: a, y :: b, hl, h => by
    rw [ndsSame, Bool.and_eq_true] at h
    rw [nd_eq h.1, nds_eq (by simpa using hl) h.2]
def nodesB (a b : List Nd) : Bool := decide (a.length = b.length) && ndsSame a b
theorem same_is (a b : Gr) : sameP a b = (graphOkP a && (decide (a.roots = b.roots) && nodesB a.nodes b.nodes)) := by
  unfold sameP nodesB
  cases h1 : graphOkP a with
  | false => rfl
  | true =>
    by_cases h2 : a.roots = b.roots
    · rw [decide_eq_true h2]
      by_cases h3 : a.nodes.length = b.nodes.length
      · rw [decide_eq_true h3]
        cases h4 : ndsSame a.nodes b.nodes with
        | false => simp
        | true =>
          have e : b = a := by
            obtain ⟨an, ar⟩ := a
            obtain ⟨bn, br⟩ := b
            have h5 := nds_eq h3 h4
            simp only at h5 h2
            rw [h5, h2]
          rw [e, h1]
          rfl
      · rw [decide_eq_false h3]
        simp
    · rw [decide_eq_false h2]
      simp
set_option maxHeartbeats 8000000 in
set_option maxRecDepth 100000 in
theorem eqIs_any (w : World) (v1 v2 : Value) (l1 l2 : List Int) (h1 : IlAt w v1 l1) (h2 : IlAt w v2 l2) (hl1 : l1.length ≤ 1048576) (hl2 : l2.length ≤ 1048576) (r : Bool) (hr : decide (l1 = l2) = r) :
    Calls Try.prog 56 #[v1, v2] w fun e w' => e = .returned (.bool r) ∧ Below w.heap.size w w' := by
  obtain ⟨a1, c1, rfl⟩ := h1.sl
  obtain ⟨a2, c2, rfl⟩ := h2.sl
  have hI1 : (l1.length : Int) ≤ 1048576 := by omega
  have hI2 : (l2.length : Int) ≤ 1048576 := by omega
  by_cases hll : l1.length = l2.length
  case neg =>
    have hne : ((l1.length : Int) != (l2.length : Int)) = true := by rw [bne_iff_ne]; omega
    obtain rfl : false = r := by rw [← hr]; exact (decide_eq_false (fun e => hll (by rw [e]))).symm
    have HB := hidG (Below.refl w.heap.size w)
    clear h1 h2 hll hr hl1 hl2
    go_enter Try.func56, Try.ntmps56
    go_wp2_with fail
    go_ret
    exact ⟨rfl, HB.out⟩
  have heq : ((l1.length : Int) != (l2.length : Int)) = false := by rw [hll]; simp
  have H1 := hidG h1
  have H2 := hidG h2
  have HLL := hidG hll
  have HR := hidG hr
  rw [← hll] at heq
  clear h1 h2 hll hr hl1 hl2
  have hle : l2.length = l1.length := HLL.out.symm
  rw [hle] at H2 ⊢
  go_enter Try.func56, Try.ntmps56
  go_wp2_with fail
  go_loopw [13] (fun iv wr => ∃ k : Nat, iv = .int .i64 k ∧ k ≤ l1.length ∧ Hid (∀ i, i < k → l1[i]? = l2[i]?) ∧ Hid (Below w.heap.size w wr)) (fun iv _ => l1.length - (intOf iv).toNat)
  case atStart => exact ⟨0, rfl, Nat.zero_le _, fun i h => absurd h (Nat.not_lt_zero _), Below.refl _ _⟩
  case round =>
    obtain ⟨k, rfl, hk, HE, HB⟩ := hrel
    by_cases hlt : k < l1.length
    · have hltI : (k : Int) < (l1.length : Int) := by omega
      obtain ⟨x, hx⟩ : ∃ x, l1[k]? = some x := ⟨_, List.getElem?_eq_getElem hlt⟩
      obtain ⟨y, hy⟩ : ∃ y, l2[k]? = some y := ⟨_, List.getElem?_eq_getElem (by rw [hle]; exact hlt)⟩
      obtain ⟨b1, o1, rfl, hb1, d1⟩ := H1.out.at hx
      have H2' := H2.out
      rw [← hle] at H2'
      obtain ⟨b2, o2, rfl, hb2, d2⟩ := H2'.at hy
      rw [← HB.out.cell hb1] at d1
      rw [← HB.out.cell hb2] at d2
      have HB2 : Hid (Below w.heap.size w wr.drew) := HB.out.drew
      by_cases hxy : x = y
      · have hq : (x != y) = false := by rw [hxy]; simp
        have HE2 : Hid (∀ i, i < k + 1 → l1[i]? = l2[i]?) := fun i hi => by
          by_cases e : i = k
          · subst e
            rw [hx, hy, hxy]
          · exact HE.out i (by omega)
        clear hx hy hb1 hb2 hxy H2' HE
        go_wp2_with fail
        go_region
        go_wp2_with fail
        go_roundw
        case rel => exact ⟨k + 1, by go_num, hlt, HE2, HB2⟩
        case measure => simp [intOf]; omega
      · have hq : (x != y) = true := by rw [bne_iff_ne]; exact hxy
        have HO : Hid (false = r) := by
          show _ = _
          rw [← HR.out]
          refine (decide_eq_false fun e => hxy ?_).symm
          rw [e, hy] at hx
          exact (Option.some.inj hx).symm
        clear hx hy hb1 hb2 hxy H2' HE
        go_wp2_with fail
        go_region
        go_wp2_with fail
        go_ret
        exact ⟨congrArg (fun b => Ending.returned (.bool b)) HO.out, HB2.out⟩
    · have hge : ¬ (k : Int) < (l1.length : Int) := by omega
      have HO : Hid (true = r) := by
        show _ = _
        rw [← HR.out]
        refine (decide_eq_true (List.ext_getElem? fun i => ?_)).symm
        by_cases hi : i < l1.length
        · exact HE.out i (by omega)
        · rw [List.getElem?_eq_none (by omega), List.getElem?_eq_none (by omega)]
      clear HE
      go_wp2_with fail
      go_ret
      exact ⟨congrArg (fun b => Ending.returned (.bool b)) HO.out, HB.out⟩
set_option maxHeartbeats 8000000 in
set_option maxRecDepth 100000 in
theorem sameNode_any (x y : Nd) (xv yv : Value) (w : World) (hX : IlAt w xv x.kids) (hY : IlAt w yv y.kids) (hx : x.kids.length ≤ 1048576) (hy : y.kids.length ≤ 1048576) (r : Bool) (hr : ndSame x y = r) :
    Calls Try.prog 58 #[.agg #[.int .i64 x.kind, .string x.tag, .string x.text, xv], .agg #[.int .i64 y.kind, .string y.tag, .string y.text, yv]] w fun e w' => e = .returned (.bool r) ∧ Below w.heap.size w w' := by
  obtain ⟨k, t, u, l⟩ := x
  obtain ⟨k', t', u', l'⟩ := y
  show Calls Try.prog 58 #[.agg #[.int .i64 k, .string t, .string u, xv], .agg #[.int .i64 k', .string t', .string u', yv]] w fun e w' => e = .returned (.bool r) ∧ Below w.heap.size w w'
  obtain ⟨V, hV⟩ : ∃ V, (w.alloc (.cells #[.int .i64 k, .string t, .string u, xv] 50)).alloc (.cells #[.int .i64 k', .string t', .string u', yv] 50) = V := ⟨_, rfl⟩
  have hB0 : Below w.heap.size w V := by rw [← hV]; exact ((Below.refl _ w).alloc (Nat.le_refl _) _).alloc (by simp) _
  have HB0 := hidG hB0
  obtain ⟨kb, hkb⟩ : ∃ kb, decide (l = l') = kb := ⟨_, rfl⟩
  have cE := eqIs_any V xv yv l l' (hX.later hB0) (hY.later hB0) hx hy kb hkb
  obtain ⟨xa, xc, rfl⟩ := hX.sl
  obtain ⟨ya, yc, rfl⟩ := hY.sl
  have HV := hidG hV
  unfold ndSame at hr
  simp only at hr
  rw [hkb] at hr
  clear hX hY hx hy hV hB0 hkb
  by_cases h1 : k = k'
  case neg =>
    have q1 : (k == k') = false := by rw [beq_eq_false_iff_ne]; exact h1
    obtain rfl : false = r := by rw [← hr]; simp [h1]
    clear hr h1 cE
    go_enter Try.func58, Try.ntmps58
    go_wp2_with fail
    rw [HV.out]
    go_ret
    exact ⟨rfl, HB0.out⟩
  have q1 : (k == k') = true := by rw [beq_iff_eq]; exact h1
  by_cases h2 : t = t'
  case neg =>
    have q2 := toList_neG h2
    obtain rfl : false = r := by rw [← hr]; simp [h2]
    clear hr h1 h2 cE
    go_enter Try.func58, Try.ntmps58
    go_wp2_with fail
    rw [HV.out]
    go_ret
    exact ⟨rfl, HB0.out⟩
  have q2 : (t.toList == t'.toList) = true := by rw [h2]; simp
  by_cases h3 : u = u'
  case neg =>
    have q3 := toList_neG h3
    obtain rfl : false = r := by rw [← hr]; simp [h3]
    clear hr h1 h2 h3 cE
    go_enter Try.func58, Try.ntmps58
    go_wp2_with fail
    rw [HV.out]
    go_ret
    exact ⟨rfl, HB0.out⟩
  have q3 : (u.toList == u'.toList) = true := by rw [h3]; simp
  obtain rfl : kb = r := by rw [← hr]; simp [h1, h2, h3]
  clear hr h1 h2 h3
  go_enter Try.func58, Try.ntmps58
  go_wp2_with fail
  rw [HV.out]
  refine cE.mono ?_
  rintro e w1 ⟨rfl, hb1⟩
  have HB1 := hidG (HB0.out.trans (hb1.mono HB0.out.size))
  clear hb1 cE
  cases kb
  all_goals
    go_wp2_with fail
    go_ret
    exact ⟨rfl, HB1.out⟩
end Go.Proofs.Ytgaibajkegfpoaa
