/- The specification's Match. -/
import Derived.Test.YtmbbmibkjnlkkaaDoorHso
namespace Go.Proofs.YtmbbmibkjnlkkaaDoor
open Go.ChangeShapes Go.WideShapes Go.ChangeAt Go.RowKit
theorem allOk_step {p : List Sg} {k : Nat} {s : Sg} (h : p[k]? = some s) (h0 : (p.take k).all segOk = true) (h1 : segOk s = true) : (p.take (k + 1)).all segOk = true := by
  rw [List.take_add_one, h, List.all_append, h0]
  simp [h1]
theorem allOk_bad {p : List Sg} {k : Nat} {s : Sg} (h : p[k]? = some s) (h1 : segOk s = false) : p.all segOk = false := by
  cases ha : p.all segOk with
  | false => rfl
  | true =>
    have := List.all_eq_true.1 ha s (List.mem_of_getElem? h)
    rw [h1] at this
    cases this
set_option maxRecDepth 100000 in
set_option maxHeartbeats 8000000 in
theorem spec_matchAll (w : World) (pv lv : Value) (p l : List Sg) (hP : SgL w pv p) (hL : SgL w lv l) (hp : p.length ≤ 1048576) (hl : l.length ≤ 1048576) :
    Calls Tryd.prog 25 #[pv, lv] w fun e w' => e = .returned (.bool (matchAll p l)) ∧ Below w.heap.size w w' := by
  obtain ⟨pa, pc, rfl⟩ := hP.sl
  obtain ⟨la, lc, rfl⟩ := hL.sl
  have HV : Hid (SgL w (.slice pa p.length pc) p ∧ p.length ≤ 1048576) := ⟨hP, hp⟩
  have HU : Hid (SgL w (.slice la l.length lc) l ∧ l.length ≤ 1048576) := ⟨hL, hl⟩
  clear hP hL hp hl
  go_enter Tryd.func25, Tryd.ntmps25
  go_wp2_with fail
  go_loopw [11] (fun kv wr => ∃ k : Nat, kv = .int .i64 (k : Int) ∧ k ≤ p.length ∧ Hid ((p.take k).all segOk = true) ∧ Hid (Below w.heap.size w wr)) (fun kv _ => p.length - (intOf kv).toNat)
  case atStart => exact ⟨0, rfl, Nat.zero_le _, by show (p.take 0).all segOk = true; rfl, Below.refl _ _⟩
  case round =>
    obtain ⟨k, rfl, hk, HK, HB⟩ := hrel
    by_cases hlt : k < p.length
    case neg =>
      obtain rfl : k = p.length := by omega
      have HPA : Hid (p.all segOk = true) := by have := HK.out; rw [List.take_length] at this; exact this
      have hlt' : ¬ (p.length : Int) < (p.length : Int) := by omega
      clear HK
      obtain ⟨W, rfl⟩ : ∃ W, W = wr := ⟨_, rfl⟩
      have HBW := HB
      clear HB
      go_wp2_with fail
      go_loopw [21] (fun kv wr => ∃ k : Nat, kv = .int .i64 (k : Int) ∧ k ≤ l.length ∧ Hid ((l.take k).all segOk = true) ∧ Hid (Below w.heap.size w wr)) (fun kv _ => l.length - (intOf kv).toNat)
      case atStart => exact ⟨0, rfl, Nat.zero_le _, by show (l.take 0).all segOk = true; rfl, HBW⟩
      case round =>
        obtain ⟨k, rfl, hk, HK, HB⟩ := hrel
        clear HBW
        by_cases hlt : k < l.length
        case neg =>
          obtain rfl : k = l.length := by omega
          have HLA : Hid (l.all segOk = true) := by have := HK.out; rw [List.take_length] at this; exact this
          have HE : Hid (matchP (onceP p) l = matchAll p l) := by
            show _ = (p.all segOk && (l.all segOk && matchP (onceP p) l))
            rw [HPA.out, HLA.out]
            rfl
          have hlt' : ¬ (l.length : Int) < (l.length : Int) := by omega
          have cO := once_any wr _ p (HV.out.1.stays HB.out) HV.out.2
          have cM : Hid (∀ w' v', Below w.heap.size w w' → SgL w' v' (onceP p) → Calls Tryd.prog 40 #[v', .slice la l.length lc] w' fun e w'' => e = .returned (.bool (matchP (onceP p) l)) ∧ Below w'.heap.size w' w'') := fun w' v' hb hv => spec_match1 _ _ _ _ w' hv (HU.out.1.stays hb)
          clear HK
          go_wp2_with (go_at_call 41; refine cO.mono ?_; rintro e w1 ⟨v1, rfl, hS1, hb1⟩)
          have HB1 : Hid (Below w.heap.size w w1) := HB.out.trans (hb1.mono HB.out.size)
          have cM := cM.out w1 v1 HB1.out hS1
          clear hS1 hb1 cO
          go_wp2_with (go_at_call 40; refine cM.mono ?_; rintro e w2 ⟨rfl, hb2⟩)
          go_ret
          exact ⟨ret_bP HE.out, HB1.out.trans (hb2.mono HB1.out.size)⟩
        have hlt' : (k : Int) < (l.length : Int) := by omega
        obtain ⟨s, hs⟩ : ∃ s, l[k]? = some s := ⟨_, List.getElem?_eq_getElem hlt⟩
        obtain ⟨b, off, rfl, _, c0, c1, c2⟩ := HU.out.1.at HB.out hs
        obtain ⟨ok, hok⟩ : ∃ ok, segOk s = ok := ⟨_, rfl⟩
        have cS := fun w' => spec_segOk s w'
        rw [hok] at cS
        have HS : Hid (l[k]? = some s ∧ segOk s = ok) := ⟨hs, hok⟩
        clear hs hok
        obtain ⟨kind, n, text⟩ := s
        have hl' : (l.length : Int) ≤ 1048576 := by have := HU.out.2; omega
        have HA : Hid (Below w.heap.size w (wr.alloc (.cells #[.int .i64 kind, .int .i64 n, .string text] 29))) := HB.out.alloc HB.out.size _
        go_wp2_with fail
        refine (cS _).mono ?_
        rintro e w1 ⟨rfl, hb1⟩
        have HB1 : Hid (Below w.heap.size w w1) := HA.out.trans (hb1.mono HA.out.size)
        clear hb1 cS c0 c1 c2 HA
        cases ok with
        | false =>
          have HE : Hid (false = matchAll p l) := by
            show _ = (p.all segOk && (l.all segOk && matchP (onceP p) l))
            rw [allOk_bad HS.out.1 HS.out.2]
            simp
          go_wp2_with fail
          go_ret
          exact ⟨ret_bP HE.out, HB1.out⟩
        | true =>
          have HK1 : Hid ((l.take (k + 1)).all segOk = true) := allOk_step HS.out.1 HK.out HS.out.2
          go_wp2_with fail
          go_roundw
          case rel => exact ⟨k + 1, by go_num, hlt, HK1, HB1⟩
          case measure => simp [intOf]; omega
    have hlt' : (k : Int) < (p.length : Int) := by omega
    obtain ⟨s, hs⟩ : ∃ s, p[k]? = some s := ⟨_, List.getElem?_eq_getElem hlt⟩
    obtain ⟨b, off, rfl, _, c0, c1, c2⟩ := HV.out.1.at HB.out hs
    obtain ⟨ok, hok⟩ : ∃ ok, segOk s = ok := ⟨_, rfl⟩
    have cS := fun w' => spec_segOk s w'
    rw [hok] at cS
    have HS : Hid (p[k]? = some s ∧ segOk s = ok) := ⟨hs, hok⟩
    clear hs hok
    obtain ⟨kind, n, text⟩ := s
    have hl' : (p.length : Int) ≤ 1048576 := by have := HV.out.2; omega
    have HA : Hid (Below w.heap.size w (wr.alloc (.cells #[.int .i64 kind, .int .i64 n, .string text] 29))) := HB.out.alloc HB.out.size _
    go_wp2_with fail
    refine (cS _).mono ?_
    rintro e w1 ⟨rfl, hb1⟩
    have HB1 : Hid (Below w.heap.size w w1) := HA.out.trans (hb1.mono HA.out.size)
    clear hb1 cS c0 c1 c2 HA
    cases ok with
    | false =>
      have HE : Hid (false = matchAll p l) := by
        show _ = (p.all segOk && (l.all segOk && matchP (onceP p) l))
        rw [allOk_bad HS.out.1 HS.out.2]
        rfl
      go_wp2_with fail
      go_ret
      exact ⟨ret_bP HE.out, HB1.out⟩
    | true =>
      have HK1 : Hid ((p.take (k + 1)).all segOk = true) := allOk_step HS.out.1 HK.out HS.out.2
      go_wp2_with fail
      go_roundw
      case rel => exact ⟨k + 1, by go_num, hlt, HK1, HB1⟩
      case measure => simp [intOf]; omega
end Go.Proofs.YtmbbmibkjnlkkaaDoor
