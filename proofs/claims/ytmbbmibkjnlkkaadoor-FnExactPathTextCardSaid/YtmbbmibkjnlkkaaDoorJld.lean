/- Lists of impl's steps, as they lie; the contract of impl.leads. -/
import Derived.Test.YtmbbmibkjnlkkaaDoorJst
import Derived.Test.YtmbbmibkjnlkkaaDoorBwr
import Derived.Deep.RegionHeld3
namespace Go.Proofs.YtmbbmibkjnlkkaaDoor
open Go.ChangeShapes Go.WideShapes Go.ChangeAt Go.RowKit
/-- A list of steps, as it lies. -/
def StL (w : World) (v : Value) (es : List Sg) : Prop :=
  (es = [] ∧ ∃ a c, v = .slice a 0 c) ∨
  (es ≠ [] ∧ ∃ b off c, v = .slice (some ⟨b, off, none⟩) es.length c ∧ b < w.heap.size ∧ es.length ≤ c ∧ ∀ i e, es[i]? = some e → w.cell? ⟨b, off + i, none⟩ = some (stepV e))
theorem StL.stays {w w' : World} {v : Value} {es : List Sg} (h : StL w v es) (hb : Below w.heap.size w w') : StL w' v es := by
  rcases h with h | ⟨h, b, off, c, e, hlt, hc, hh⟩
  · exact .inl h
  · exact .inr ⟨h, b, off, c, e, Nat.lt_of_lt_of_le hlt hb.size, hc, fun i p hi => by rw [hb.cell hlt]; exact hh i p hi⟩
theorem StL.sl {w : World} {v : Value} {es : List Sg} (h : StL w v es) : ∃ a c, v = .slice a es.length c := by
  rcases h with ⟨rfl, a, c, rfl⟩ | ⟨_, b, off, c, rfl, _⟩
  · exact ⟨a, c, rfl⟩
  · exact ⟨_, c, rfl⟩
theorem StL.at {w wr : World} {a : Option Addr} {c : Nat} {es : List Sg} (h : StL w (.slice a es.length c) es) (hb : Below w.heap.size w wr) {k : Nat} {e : Sg} (hx : es[k]? = some e) :
    ∃ b off, a = some ⟨b, off, none⟩ ∧ wr.cell? ⟨b, off + k, none⟩ = some (stepV e) := by
  rcases h with ⟨e1, _⟩ | ⟨_, b, off, _, e1, hbl, _, hcell⟩
  · rw [e1] at hx; simp at hx
  · injection e1 with e1
    exact ⟨b, off, e1, by rw [hb.cell hbl]; exact hcell k e hx⟩
theorem StL.nil (w : World) (a : Option Addr) (c : Nat) : StL w (.slice a 0 c) [] := .inl ⟨rfl, a, c, rfl⟩
/-- A part of it. -/
theorem StL.part {w : World} {a : Option Addr} {c : Nat} {es : List Sg} (h : StL w (.slice a es.length c) es) (lo hi : Nat) (h1 : lo ≤ hi) (h2 : hi ≤ es.length) (x : Option Addr) (hx : lo < hi → ∀ b off, a = some ⟨b, off, none⟩ → x = some ⟨b, off + lo, none⟩) (c' : Nat) (hc' : hi - lo ≤ c') :
    StL w (.slice x (hi - lo) c') ((es.take hi).drop lo) := by
  have hl : ((es.take hi).drop lo).length = hi - lo := by rw [List.length_drop, List.length_take]; omega
  by_cases h0 : lo = hi
  · subst h0
    rw [Nat.sub_self] at hl ⊢
    rw [List.eq_nil_of_length_eq_zero hl]
    exact StL.nil w x c'
  · right
    rcases h with ⟨e, _⟩ | ⟨_, b, off, c2, e, hlt, hc, hh⟩
    · rw [e] at h2; simp at h2; omega
    · injection e with e1 e2 e3
      refine ⟨fun e => by rw [e] at hl; simp at hl; omega, b, off + lo, c', by rw [hl, hx (by omega) b off e1], hlt, by omega, fun i e hi2 => ?_⟩
      rw [List.getElem?_drop] at hi2
      have hlt2 : lo + i < hi := by
        rcases Nat.lt_or_ge (lo + i) hi with h | h
        · exact h
        · rw [List.getElem?_eq_none (by rw [List.length_take]; omega)] at hi2; cases hi2
      rw [List.getElem?_take, if_pos hlt2] at hi2
      rw [Nat.add_assoc]
      exact hh (lo + i) e hi2
def okS (es : List Sg) : Prop := ∀ e ∈ es, segOk e = true
def leadsP : List Sg → List Sg → Bool
  | [], _ => true
  | _ :: _, [] => false
  | s :: p, x :: l => (decide (s.kind = 4) || segSame s x) && leadsP p l
theorem leads_long : ∀ (p l : List Sg), l.length < p.length → leadsP p l = false
  | [], _, h => by simp at h
  | _ :: _, [], _ => rfl
  | s :: p, x :: l, h => by
    show ((decide (s.kind = 4) || segSame s x) && leadsP p l) = false
    rw [leads_long p l (by simp only [List.length_cons] at h; omega), Bool.and_false]
theorem drop_at {α : Type} {l : List α} {k : Nat} {x : α} (h : l[k]? = some x) : l.drop k = x :: l.drop (k + 1) := by
  obtain ⟨hk, e⟩ := List.getElem?_eq_some_iff.1 h
  rw [List.drop_eq_getElem_cons hk, e]
theorem ret_bJ {a b : Bool} (h : a = b) : Ending.returned (.bool a) = .returned (.bool b) := by rw [h]
set_option maxRecDepth 100000 in
set_option maxHeartbeats 8000000 in
theorem leads_any (w : World) (pv lv : Value) (p l : List Sg) (hP : StL w pv p) (hL : StL w lv l) (hp : okS p) (hl : okS l) (np : p.length ≤ 1048576) (nl : l.length ≤ 1048576) :
    Calls Tryd.prog 53 #[pv, lv] w fun e w' => e = .returned (.bool (leadsP p l)) ∧ Below w.heap.size w w' := by
  obtain ⟨pa, pc, rfl⟩ := hP.sl
  obtain ⟨la, lc, rfl⟩ := hL.sl
  have HP : Hid (StL w (.slice pa p.length pc) p ∧ okS p) := ⟨hP, hp⟩
  have HL : Hid (StL w (.slice la l.length lc) l ∧ okS l) := ⟨hL, hl⟩
  have pI : (p.length : Int) ≤ 1048576 := by omega
  have lI : (l.length : Int) ≤ 1048576 := by omega
  clear hP hL hp hl np nl
  by_cases hlong : l.length < p.length
  · have hI : (l.length : Int) < (p.length : Int) := by omega
    have HO : Hid (false = leadsP p l) := (leads_long p l hlong).symm
    clear HP HL
    go_enter Tryd.func53, Tryd.ntmps53
    go_wp2_with fail
    go_ret
    exact ⟨ret_bJ HO.out, Below.refl _ _⟩
  have hI : ¬ (l.length : Int) < (p.length : Int) := by omega
  have HLN : Hid (p.length ≤ l.length) := by show _ ≤ _; omega
  clear hlong
  go_enter Tryd.func53, Tryd.ntmps53
  go_wp2_with fail
  go_loopw [16] (fun kv wr => ∃ k : Nat, kv = .int .i64 (k : Int) ∧ k ≤ p.length ∧ Hid (leadsP (p.drop k) (l.drop k) = leadsP p l ∧ Below w.heap.size w wr)) (fun kv _ => p.length - (intOf kv).toNat)
  case atStart => exact ⟨0, rfl, Nat.zero_le _, rfl, Below.refl _ _⟩
  case round =>
    obtain ⟨k, rfl, hk, HR⟩ := hrel
    by_cases hlt : k < p.length
    case neg =>
      obtain rfl : k = p.length := by omega
      have hlt' : ¬ (p.length : Int) < (p.length : Int) := by omega
      have HO : Hid (true = leadsP p l ∧ Below w.heap.size w wr) := by
        refine ⟨?_, HR.out.2⟩
        rw [← HR.out.1, List.drop_length]
        rfl
      clear HR hlt hk
      go_wp2_with fail
      go_ret
      exact ⟨ret_bJ HO.out.1, HO.out.2⟩
    have hlt' : (k : Int) < (p.length : Int) := by omega
    have hltl : k < l.length := by have := HLN.out; omega
    have hltl' : (k : Int) < (l.length : Int) := by omega
    obtain ⟨s, hs⟩ : ∃ s, p[k]? = some s := ⟨_, List.getElem?_eq_getElem hlt⟩
    obtain ⟨x, hx⟩ : ∃ x, l[k]? = some x := ⟨_, List.getElem?_eq_getElem hltl⟩
    have os := HP.out.2 s (List.mem_of_getElem? hs)
    have ox := HL.out.2 x (List.mem_of_getElem? hx)
    have HST : Hid (((decide (s.kind = 4) || segSame s x) && leadsP (p.drop (k + 1)) (l.drop (k + 1))) = leadsP p l) := by
      have h1 := HR.out.1
      rw [drop_at hs, drop_at hx] at h1
      exact h1
    have hA := fun u => step_any s u os
    have hN := fun u => step_neq s x os ox u
    have hG := fun a b u => step_guard s x a b u
    obtain ⟨W, hW⟩ : ∃ W, wr.alloc (.cells #[] 99) = W := ⟨_, rfl⟩
    have hbW : Below wr.heap.size wr W := by rw [← hW]; exact (Below.refl _ wr).alloc (Nat.le_refl _) _
    have HBW : Hid (Below w.heap.size w W) := HR.out.2.trans (hbW.mono HR.out.2.size)
    obtain ⟨b, off, rfl, c0⟩ := HP.out.1.at HR.out.2 hs
    obtain ⟨b2, off2, rfl, c1⟩ := HL.out.1.at HBW.out hx
    rw [← hW] at c1
    have HW : Hid (wr.alloc (.cells #[] 99) = W) := hW
    have HLT : Hid (k < p.length) := hlt
    clear os ox hs hx hW hbW HR hlt hltl hk
    generalize stepV s = sv at *
    generalize stepV x = xv at *
    generalize segSame s x = sm at *
    by_cases h4 : s.kind = 4
    · have HO : Hid (leadsP (p.drop (k + 1)) (l.drop (k + 1)) = leadsP p l ∧ Below w.heap.size w W) := by
        refine ⟨?_, HBW.out⟩
        rw [← HST.out, decide_eq_true h4]
        rfl
      rw [decide_eq_true h4] at hA
      clear hN hG HST HBW c1
      go_wp2_with fail
      rw [HW.out]
      go_roundw
      case rel => exact ⟨k + 1, by go_num, HLT.out, HO⟩
      case measure => have := HLT.out; simp [intOf]; omega
    rw [decide_eq_false h4] at hA HST
    rw [Bool.false_or] at HST
    cases hsm : sm with
    | false =>
      rw [hsm] at hN HST
      have HO : Hid (false = leadsP p l ∧ Below w.heap.size w W) := ⟨HST.out, HBW.out⟩
      clear hsm HST HBW
      go_wp2_with fail
      rw [HW.out]
      go_ret
      exact ⟨ret_bJ HO.out.1, HO.out.2⟩
    | true =>
      rw [hsm] at hN HST
      have HO : Hid (leadsP (p.drop (k + 1)) (l.drop (k + 1)) = leadsP p l ∧ Below w.heap.size w W) := ⟨HST.out, HBW.out⟩
      clear hsm HST HBW
      go_wp2_with fail
      rw [HW.out]
      go_roundw
      case rel => exact ⟨k + 1, by go_num, HLT.out, HO⟩
      case measure => have := HLT.out; simp [intOf]; omega
end Go.Proofs.YtmbbmibkjnlkkaaDoor
