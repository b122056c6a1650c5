/- The contract of impl.firstSuffix, over the closure that impl.tells hands to it. -/
import Derived.Test.YtmbbmibkjnlkkaaDoorJcd
import Derived.Shelf.Abstract
import Derived.Lib.Builder
namespace Go.Proofs.YtmbbmibkjnlkkaaDoor
open Go.ChangeShapes Go.WideShapes Go.ChangeAt Go.RowKit
/-- The first rest of a path that begins so. -/
def firstP (h : List Sg) : List Sg → Option (List Sg)
  | [] => if leadsP h [] = true then some [] else none
  | x :: l => if leadsP h (x :: l) = true then some (x :: l) else firstP h l
theorem firstP_yes {h l : List Sg} (e : leadsP h l = true) : firstP h l = some l := by
  cases l with
  | nil => exact if_pos e
  | cons x l => exact if_pos e
theorem firstP_no {h l : List Sg} {k : Nat} (e : leadsP h (l.drop k) = false) (hk : k < l.length) : firstP h (l.drop k) = firstP h (l.drop (k + 1)) := by
  obtain ⟨x, hx⟩ : ∃ x, l[k]? = some x := ⟨_, List.getElem?_eq_getElem hk⟩
  rw [drop_at hx] at e ⊢
  exact if_neg (by rw [e]; simp)
theorem firstP_end {h : List Sg} (e : leadsP h [] = false) : firstP h [] = none := if_neg (by rw [e]; simp)
theorem okS_drop {l : List Sg} (h : okS l) (k : Nat) : okS (l.drop k) := fun e he => h e (List.mem_of_mem_drop he)
theorem firstP_drop : ∀ {h l x : List Sg}, firstP h l = some x → ∃ k, k ≤ l.length ∧ x = l.drop k
  | h, [], x, e => by
    unfold firstP at e
    split at e
    · injection e with e
      exact ⟨0, Nat.le_refl _, e.symm⟩
    · cases e
  | h, y :: l, x, e => by
    unfold firstP at e
    split at e
    · injection e with e
      exact ⟨0, Nat.zero_le _, e.symm⟩
    · obtain ⟨k, hk, hx⟩ := firstP_drop e
      exact ⟨k + 1, by simp only [List.length_cons]; omega, by rw [List.drop_succ_cons]; exact hx⟩
set_option maxHeartbeats 4000000 in
theorem tellsC_any (w : World) (hb : Nat) (hv lv : Value) (hd l : List Sg) (hB : w.heap[hb]? = some (.cells #[hv] 47 (0, 0))) (hH : StL w hv hd) (hL : StL w lv l) (oh : okS hd) (ol : okS l) (nh : hd.length ≤ 1048576) (nl : l.length ≤ 1048576) :
    Calls Tryd.prog 55 #[lv, .pointer (some ⟨hb, 0, none⟩)] w fun e w' => e = .returned (.bool (leadsP hd l)) ∧ Below w.heap.size w w' := by
  have c0 : w.cell? ⟨hb, 0, none⟩ = some hv := by rw [Lib.cell_of_heap hB]; rfl
  have cL := leads_any w hv lv hd l hH hL oh ol nh nl
  clear hB hH hL oh ol nh nl
  go_enter Tryd.func55, Tryd.ntmps55
  go_wp2_with fail
  refine cL.mono ?_
  rintro e w1 ⟨rfl, hb1⟩
  go_wp2_with fail
  go_ret
  exact ⟨rfl, hb1⟩
/-- What firstSuffix answers. -/
def FstA (hd l : List Sg) (w0 w : World) (e : Ending) (w' : World) : Prop :=
  ∃ xv, e = .returned (.tuple #[xv, .bool (firstP hd l).isSome]) ∧ StL w0 xv ((firstP hd l).getD []) ∧ Below w.heap.size w w'
set_option maxRecDepth 100000 in
set_option maxHeartbeats 8000000 in
theorem firstSuffix_cons (w0 w : World) (h0 : Below w0.heap.size w0 w) (hb : Nat) (hv lv : Value) (hd l : List Sg) (hB : w.heap[hb]? = some (.cells #[hv] 47 (0, 0))) (hH : StL w0 hv hd) (hL : StL w0 lv l) (oh : okS hd) (ol : okS l) (nh : hd.length ≤ 1048576) (nl : l.length ≤ 1048576) (hne : l ≠ []) :
    Calls Tryd.prog 54 #[lv, .func (.func 55) #[] #[.pointer (some ⟨hb, 0, none⟩)]] w fun e w' => FstA hd l w0 w e w' := by
  obtain ⟨b, off, lc, rfl, hcap⟩ : ∃ b off c, lv = .slice (some ⟨b, off, none⟩) l.length c ∧ l.length ≤ c := by
    rcases hL with ⟨e, _⟩ | ⟨_, b, off, c, e, _, hc, _⟩
    · exact absurd e hne
    · exact ⟨b, off, c, e, hc⟩
  have eg : ∀ args w, (callFunc 55 args).run Tryd.prog w = .ok (.enter 55 args) w := enters_of Tryd.func55 (by kernel_rfl) rfl
  have HL : Hid (StL w0 (.slice (some ⟨b, off, none⟩) l.length lc) l ∧ okS l ∧ l.length ≤ 1048576) := ⟨hL, ol, nl⟩
  have CT : Hid (∀ u x k, Below w.heap.size w u → StL w0 x (l.drop k) → Calls Tryd.prog 55 #[x, .pointer (some ⟨hb, 0, none⟩)] u fun e w' => e = .returned (.bool (leadsP hd (l.drop k))) ∧ Below u.heap.size u w') := fun u x k hu hx =>
    tellsC_any u hb hv x hd (l.drop k) ((hu.block _ (Array.getElem?_eq_some_iff.1 hB).1).trans hB) (hH.stays (h0.trans (hu.mono h0.size))) (hx.stays (h0.trans (hu.mono h0.size))) oh (okS_drop ol k) nh (by rw [List.length_drop]; omega)
  have lI : (l.length : Int) ≤ 1048576 := by omega
  clear hB hH hL oh ol nh nl hne h0
  go_enter Tryd.func54, Tryd.ntmps54
  go_wp2_with fail
  go_loopw [10] (fun kv wr => ∃ k : Nat, kv = .int .i64 (k : Int) ∧ k ≤ l.length + 1 ∧ Hid ((if k ≤ l.length then firstP hd (l.drop k) else none) = firstP hd l ∧ Below w.heap.size w wr)) (fun kv _ => l.length + 1 - (intOf kv).toNat)
  case atStart => exact ⟨0, rfl, Nat.zero_le _, by simp, Below.refl _ _⟩
  case round =>
    obtain ⟨k, rfl, hk, HR⟩ := hrel
    by_cases hlt : k ≤ l.length
    case neg =>
      obtain rfl : k = l.length + 1 := by omega
      have hlt' : ¬ ((l.length + 1 : Nat) : Int) < (l.length : Int) + 1 := by omega
      have HO : Hid (FstA hd l w0 w (.returned (.tuple #[.slice none 0 0, .bool false])) wr) := by
        have h1 := HR.out
        rw [if_neg hlt] at h1
        exact ⟨_, by rw [← h1.1]; rfl, by rw [← h1.1]; exact StL.nil _ _ _, h1.2⟩
      clear HR hlt hk
      go_wp2_with fail
      go_ret2
      exact HO.out
    have hlt' : (k : Int) < (l.length : Int) + 1 := by omega
    have hle : (k : Int) ≤ (l.length : Int) := by omega
    have HK : Hid (firstP hd (l.drop k) = firstP hd l ∧ Below w.heap.size w wr ∧ k ≤ l.length) := by
      have h1 := HR.out
      rw [if_pos hlt] at h1
      exact ⟨h1.1, h1.2, hlt⟩
    clear HR hlt hk
    have HX : Hid (∀ (x : Option Addr) (c' : Nat), (k < l.length → x = some ⟨b, off + k, none⟩) → l.length - k ≤ c' → StL w0 (.slice x (l.length - k) c') (l.drop k)) := by
      intro x c' hx hc'
      have := HL.out.1.part k l.length (by have := HK.out; omega) (Nat.le_refl _) x (fun h b' off' e => by injection e with e; injection e with e1 e2; rw [hx h, e1, e2]) c' hc'
      rwa [List.take_length] at this
    go_wp2_with fail
    case inl =>
      subst h
      have CX := CT.out _ _ lc HK.out.2.1 (HX.out (some ⟨b, off, none⟩) 0 (fun h => absurd h (by omega)) (by have := HK.out.2.2; omega))
      cases hb : leadsP hd (l.drop lc) with
      | true =>
        rw [hb] at CX
        have HO : Hid (∀ (u : World) (x : Option Addr) (n' c' : Nat), Below wr.heap.size wr u → n' = l.length - lc → (lc < l.length → x = some ⟨b, off + lc, none⟩) → l.length - lc ≤ c' → FstA hd l w0 w (.returned (.tuple #[.slice x n' c', .bool true])) u) := by
          intro u x n' c' hu hn hx hc'
          subst hn
          have hu2 := HK.out.2.1.trans (hu.mono HK.out.2.1.size)
          have h1 := HK.out.1
          rw [firstP_yes hb] at h1
          exact ⟨_, by rw [← h1]; rfl, by rw [← h1]; exact HX.out x c' hx hc', hu2⟩
        clear hb
        refine CX.mono ?_
        rintro e w1 ⟨rfl, hb1⟩
        clear CX
        go_wp2_with fail
        all_goals (
          go_ret2
          first
            | exact HO.out _ _ _ _ hb1 (by omega) (fun _ => rfl) (by omega)
            | exact HO.out _ _ _ _ hb1 (by omega) (fun h => absurd h (by omega)) (by omega))
      | false =>
        rw [hb] at CX
        have HO : Hid ((if lc + 1 ≤ l.length then firstP hd (l.drop (lc + 1)) else none) = firstP hd l ∧ lc < l.length + 1) := by
          refine ⟨?_, by have := HK.out.2.2; omega⟩
          rw [← HK.out.1]
          by_cases h1 : lc < l.length
          · rw [if_pos (by omega), ← firstP_no hb h1]
          · have h2 : lc = l.length := by have := HK.out.2.2; omega
            rw [if_neg (by omega)]
            rw [h2, List.drop_length] at hb ⊢
            exact (firstP_end hb).symm
        clear hb
        refine CX.mono ?_
        rintro e w1 ⟨rfl, hb1⟩
        have HB1 : Hid (Below w.heap.size w w1) := HK.out.2.1.trans (hb1.mono HK.out.2.1.size)
        clear CX hb1
        go_wp2_with fail
        go_roundw
        case rel => exact ⟨lc + 1, by go_num, by have := HO.out.2; omega, HO.out.1, HB1.out⟩
        case measure => have := HO.out.2; simp [intOf]; omega
    case inr =>
      have CX := CT.out _ _ k HK.out.2.1 (HX.out (some ⟨b, off + k, none⟩) (lc - k) (fun _ => rfl) (by omega))
      cases hb : leadsP hd (l.drop k) with
      | true =>
        rw [hb] at CX
        have HO : Hid (∀ (u : World) (x : Option Addr) (n' c' : Nat), Below wr.heap.size wr u → n' = l.length - k → (k < l.length → x = some ⟨b, off + k, none⟩) → l.length - k ≤ c' → FstA hd l w0 w (.returned (.tuple #[.slice x n' c', .bool true])) u) := by
          intro u x n' c' hu hn hx hc'
          subst hn
          have hu2 := HK.out.2.1.trans (hu.mono HK.out.2.1.size)
          have h1 := HK.out.1
          rw [firstP_yes hb] at h1
          exact ⟨_, by rw [← h1]; rfl, by rw [← h1]; exact HX.out x c' hx hc', hu2⟩
        clear hb
        refine CX.mono ?_
        rintro e w1 ⟨rfl, hb1⟩
        clear CX
        go_wp2_with fail
        all_goals (
          go_ret2
          first
            | exact HO.out _ _ _ _ hb1 (by omega) (fun _ => rfl) (by omega)
            | exact HO.out _ _ _ _ hb1 (by omega) (fun h => absurd h (by omega)) (by omega))
      | false =>
        rw [hb] at CX
        have HO : Hid ((if k + 1 ≤ l.length then firstP hd (l.drop (k + 1)) else none) = firstP hd l ∧ k < l.length + 1) := by
          refine ⟨?_, by have := HK.out.2.2; omega⟩
          rw [← HK.out.1]
          by_cases h1 : k < l.length
          · rw [if_pos (by omega), ← firstP_no hb h1]
          · have h2 : k = l.length := by have := HK.out.2.2; omega
            rw [if_neg (by omega)]
            rw [h2, List.drop_length] at hb ⊢
            exact (firstP_end hb).symm
        clear hb
        refine CX.mono ?_
        rintro e w1 ⟨rfl, hb1⟩
        have HB1 : Hid (Below w.heap.size w w1) := HK.out.2.1.trans (hb1.mono HK.out.2.1.size)
        clear CX hb1
        go_wp2_with fail
        go_roundw
        case rel => exact ⟨k + 1, by go_num, by have := HO.out.2; omega, HO.out.1, HB1.out⟩
        case measure => have := HO.out.2; simp [intOf]; omega
set_option maxRecDepth 100000 in
set_option maxHeartbeats 8000000 in
theorem firstSuffix_nil (w0 w : World) (h0 : Below w0.heap.size w0 w) (hb : Nat) (hv : Value) (a : Option Addr) (c : Nat) (hd : List Sg) (hB : w.heap[hb]? = some (.cells #[hv] 47 (0, 0))) (hH : StL w0 hv hd) (oh : okS hd) (nh : hd.length ≤ 1048576) :
    Calls Tryd.prog 54 #[.slice a 0 c, .func (.func 55) #[] #[.pointer (some ⟨hb, 0, none⟩)]] w fun e w' => FstA hd [] w0 w e w' := by
  have eg : ∀ args w, (callFunc 55 args).run Tryd.prog w = .ok (.enter 55 args) w := enters_of Tryd.func55 (by kernel_rfl) rfl
  have CT : Hid (∀ u x c', Below w.heap.size w u → Calls Tryd.prog 55 #[.slice x 0 c', .pointer (some ⟨hb, 0, none⟩)] u fun e w' => e = .returned (.bool (leadsP hd [])) ∧ Below u.heap.size u w') := fun u x c' hu =>
    tellsC_any u hb hv _ hd [] ((hu.block _ (Array.getElem?_eq_some_iff.1 hB).1).trans hB) (hH.stays (h0.trans (hu.mono h0.size))) (StL.nil _ _ _) oh (fun e he => by cases he) nh (by simp)
  clear hB hH oh nh h0
  have HE : Hid (∀ x c' u, Below w.heap.size w u → leadsP hd [] = true → FstA hd [] w0 w (.returned (.tuple #[.slice x 0 c', .bool true])) u) := fun x c' u hu h => ⟨_, by rw [firstP_yes h]; rfl, by rw [firstP_yes h]; exact StL.nil _ _ _, hu⟩
  have HN : Hid (∀ u, Below w.heap.size w u → leadsP hd [] = false → FstA hd [] w0 w (.returned (.tuple #[.slice none 0 0, .bool false])) u) := fun u hu h => ⟨_, by rw [firstP_end h]; rfl, by rw [firstP_end h]; exact StL.nil _ _ _, hu⟩
  generalize hy : leadsP hd [] = y at *
  clear hy
  go_enter Tryd.func54, Tryd.ntmps54
  go_wp2_with fail
  go_loopw [10] (fun kv wr => ∃ k : Nat, kv = .int .i64 (k : Int) ∧ k ≤ 1 ∧ Hid (k = 1 → y = false) ∧ Hid (Below w.heap.size w wr)) (fun kv _ => 1 - (intOf kv).toNat)
  case atStart => exact ⟨0, rfl, by omega, fun h => (by cases h), Below.refl _ _⟩
  case round =>
    obtain ⟨k, rfl, hk, HY, HB⟩ := hrel
    by_cases h1 : k = 1
    · subst h1
      have HO := HN.out _ HB.out (HY.out rfl)
      have HO : Hid (FstA hd [] w0 w (.returned (.tuple #[.slice none 0 0, .bool false])) wr) := HO
      clear HY hk HE HN
      go_wp2_with fail
      go_ret2
      exact HO.out
    · obtain rfl : k = 0 := by omega
      clear HY hk h1
      go_wp2_with fail
      all_goals (
        refine (CT.out _ _ _ HB.out).mono ?_
        rintro e w1 ⟨rfl, hb1⟩
        have HB1 : Hid (Below w.heap.size w w1) := HB.out.trans (hb1.mono HB.out.size)
        clear hb1
        cases hy : y with
        | true =>
          have HO : Hid (∀ x c', FstA hd [] w0 w (.returned (.tuple #[.slice x 0 c', .bool true])) w1) := fun x c' => HE.out x c' w1 HB1.out hy
          clear HE HN hy CT
          go_wp2_with fail
          all_goals (
            go_ret2
            exact HO.out _ _)
        | false =>
          have HO : Hid (y = false) := hy
          clear HE hy CT
          go_wp2_with fail
          go_roundw
          case rel => exact ⟨1, rfl, by omega, fun _ => HO.out, HB1.out⟩
          case measure => simp [intOf])
theorem firstSuffix_any (w0 w : World) (h0 : Below w0.heap.size w0 w) (hb : Nat) (hv lv : Value) (hd l : List Sg) (hB : w.heap[hb]? = some (.cells #[hv] 47 (0, 0))) (hH : StL w0 hv hd) (hL : StL w0 lv l) (oh : okS hd) (ol : okS l) (nh : hd.length ≤ 1048576) (nl : l.length ≤ 1048576) :
    Calls Tryd.prog 54 #[lv, .func (.func 55) #[] #[.pointer (some ⟨hb, 0, none⟩)]] w fun e w' => FstA hd l w0 w e w' := by
  by_cases h : l = []
  · subst h
    obtain ⟨a, c, rfl⟩ := hL.sl
    exact firstSuffix_nil w0 w h0 hb hv a c hd hB hH oh nh
  · exact firstSuffix_cons w0 w h0 hb hv lv hd l hB hH hL oh ol nh nl h
end Go.Proofs.YtmbbmibkjnlkkaaDoor
