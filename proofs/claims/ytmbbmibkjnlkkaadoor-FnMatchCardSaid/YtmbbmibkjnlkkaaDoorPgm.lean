/- A pattern is told greedily: plain. -/
import Derived.Test.YtmbbmibkjnlkkaaDoorJfs
import Derived.Test.YtmbbmibkjnlkkaaDoorPso
namespace Go.Proofs.YtmbbmibkjnlkkaaDoor
open Go.RowKit
def noDeep (p : List Sg) : Prop := ∀ s ∈ p, s.kind ≠ 5
theorem noDeep_cons {s : Sg} {p : List Sg} (h : noDeep (s :: p)) : s.kind ≠ 5 ∧ noDeep p := ⟨h s (List.mem_cons_self ..), fun e he => h e (List.mem_cons_of_mem _ he)⟩
theorem match_plain : ∀ (p l : List Sg), noDeep p → matchP p l = (decide (p.length = l.length) && leadsP p l)
  | [], [], _ => rfl
  | [], _ :: _, _ => rfl
  | s :: p, [], h => by
    rw [match_step0 (noDeep_cons h).1]
    simp
  | s :: p, x :: l, h => by
    rw [match_step1 (noDeep_cons h).1, match_plain p l (noDeep_cons h).2]
    show _ = (decide (p.length + 1 = l.length + 1) && ((decide (s.kind = 4) || segSame s x) && leadsP p l))
    by_cases e : p.length = l.length
    · rw [decide_eq_true e, decide_eq_true (show p.length + 1 = l.length + 1 by omega)]; rfl
    · rw [decide_eq_false e, decide_eq_false (show ¬ p.length + 1 = l.length + 1 by omega)]; simp
theorem match_head (d : Sg) (hd : d.kind = 5) (r : List Sg) : ∀ (h l : List Sg), noDeep h → matchP (h ++ d :: r) l = (leadsP h l && matchP (d :: r) (l.drop h.length))
  | [], l, _ => by show _ = (true && _); rw [Bool.true_and]; rfl
  | s :: h, [], e => by
    show matchP (s :: (h ++ d :: r)) [] = _
    rw [match_step0 (noDeep_cons e).1]; rfl
  | s :: h, x :: l, e => by
    show matchP (s :: (h ++ d :: r)) (x :: l) = _
    rw [match_step1 (noDeep_cons e).1, match_head d hd r h l (noDeep_cons e).2]
    show _ = (((decide (s.kind = 4) || segSame s x) && leadsP h l) && matchP (d :: r) (l.drop h.length))
    rw [Bool.and_assoc]
theorem match_rest (d : Sg) (hd : d.kind = 5) (r : List Sg) : ∀ (k : Nat) (l : List Sg), matchP (d :: r) (l.drop k) = true → matchP (d :: r) l = true
  | 0, l, h => h
  | k + 1, [], h => h
  | k + 1, x :: l, h => by
    rw [List.drop_succ_cons] at h
    rw [match_deep1 hd, match_rest d hd r k l h, Bool.or_true]
theorem match_last (d : Sg) (hd : d.kind = 5) (r : List Sg) (hr : noDeep r) : ∀ l : List Sg, matchP (d :: r) l = (decide (r.length ≤ l.length) && leadsP r (l.drop (l.length - r.length)))
  | [] => by
    rw [match_deep0 hd, match_plain r [] hr]
    cases r with
    | nil => rfl
    | cons s r => rfl
  | x :: t => by
    rw [match_deep1 hd, match_plain r _ hr, match_last d hd r hr t]
    simp only [List.length_cons]
    rcases Nat.lt_trichotomy r.length (t.length + 1) with h | h | h
    · rw [decide_eq_false (show ¬ r.length = t.length + 1 by omega), decide_eq_true (show r.length ≤ t.length by omega), decide_eq_true (show r.length ≤ t.length + 1 by omega), show t.length + 1 - r.length = (t.length - r.length) + 1 by omega, List.drop_succ_cons]
      rfl
    · rw [decide_eq_true h, decide_eq_false (show ¬ r.length ≤ t.length by omega), decide_eq_true (show r.length ≤ t.length + 1 by omega), show t.length + 1 - r.length = 0 by omega]
      simp
    · rw [decide_eq_false (show ¬ r.length = t.length + 1 by omega), decide_eq_false (show ¬ r.length ≤ t.length by omega), decide_eq_false (show ¬ r.length ≤ t.length + 1 by omega)]
      rfl
theorem firstP_leads : ∀ {h l x : List Sg}, firstP h l = some x → leadsP h x = true
  | h, [], x, e => by
    unfold firstP at e
    split at e
    · injection e with e; subst e; assumption
    · cases e
  | h, y :: l, x, e => by
    unfold firstP at e
    split at e
    · injection e with e; subst e; assumption
    · exact firstP_leads e
theorem match_first (d g : Sg) (hd : d.kind = 5) (hg : g.kind = 5) (h r : List Sg) (nh : noDeep h) : ∀ l : List Sg, matchP (d :: (h ++ g :: r)) l = (match firstP h l with | none => false | some x => matchP (g :: r) (x.drop h.length))
  | [] => by
    rw [match_deep0 hd, match_head g hg r h [] nh]
    cases e : leadsP h [] with
    | true => rw [firstP_yes e]; rfl
    | false => rw [firstP_end e]; rfl
  | x :: t => by
    rw [match_deep1 hd, match_head g hg r h (x :: t) nh, match_first d g hd hg h r nh t]
    cases e : leadsP h (x :: t) with
    | false =>
      have e2 : firstP h (x :: t) = firstP h t := if_neg (by rw [e]; simp)
      rw [e2]; rfl
    | true =>
      rw [firstP_yes e]
      show (matchP (g :: r) ((x :: t).drop h.length) || _) = matchP (g :: r) ((x :: t).drop h.length)
      cases e2 : firstP h t with
      | none => simp
      | some y =>
        show (_ || matchP (g :: r) (y.drop h.length)) = _
        cases e3 : matchP (g :: r) (y.drop h.length) with
        | false => simp
        | true =>
          obtain ⟨k, _, rfl⟩ := firstP_drop e2
          rw [match_rest g hg r (k + 1) ((x :: t).drop h.length) (by
            rw [List.drop_drop, show h.length + (k + 1) = (k + h.length) + 1 by omega, List.drop_succ_cons, ← List.drop_drop]
            exact e3)]
          rfl
/-- A pattern is its head, and a deep step with what is behind it, if there is one. -/
theorem cut_none : ∀ {p : List Sg}, cutR p = none → cutH p = p ∧ noDeep p
  | [], _ => ⟨rfl, fun s hs => by cases hs⟩
  | s :: p, h => by
    by_cases e : s.kind = 5
    · rw [(cut_here e).2] at h; cases h
    · rw [(cut_step e).2] at h
      obtain ⟨h1, h2⟩ := cut_none h
      rw [(cut_step e).1, h1]
      refine ⟨rfl, fun x hx => ?_⟩
      rcases List.mem_cons.1 hx with rfl | hx
      · exact e
      · exact h2 x hx
theorem cut_some : ∀ {p r : List Sg}, cutR p = some r → ∃ g : Sg, g.kind = 5 ∧ p = cutH p ++ g :: r ∧ noDeep (cutH p)
  | [], _, h => by cases h
  | s :: p, r, h => by
    by_cases e : s.kind = 5
    · rw [(cut_here e).2] at h
      injection h with h
      subst h
      rw [(cut_here e).1]
      exact ⟨s, e, rfl, fun x hx => by cases hx⟩
    · rw [(cut_step e).2] at h
      obtain ⟨g, hg, h1, h2⟩ := cut_some h
      rw [(cut_step e).1]
      refine ⟨g, hg, by rw [List.cons_append, ← h1], fun x hx => ?_⟩
      rcases List.mem_cons.1 hx with rfl | hx
      · exact e
      · exact h2 x hx
def deepS : Sg := ⟨5, 0, ⟨#[]⟩⟩
theorem deepS_5 : deepS.kind = 5 := rfl
/-- What matchP is, by the pattern's first cut. -/
theorem tells_plain {p : List Sg} (h : cutR p = none) (l : List Sg) : matchP p l = (decide (p.length = l.length) && leadsP p l) := match_plain p l (cut_none h).2
theorem tells_deep {p r : List Sg} (h : cutR p = some r) (l : List Sg) : matchP p l = (leadsP (cutH p) l && matchP (deepS :: r) (l.drop (cutH p).length)) := by
  obtain ⟨g, hg, h1, h2⟩ := cut_some h
  have := match_head g hg r (cutH p) l h2
  rw [← h1, match_deeps hg deepS_5] at this
  exact this
theorem loop_last {r : List Sg} (h : cutR r = none) (l : List Sg) : matchP (deepS :: r) l = (decide (r.length ≤ l.length) && leadsP r (l.drop (l.length - r.length))) := match_last deepS deepS_5 r (cut_none h).2 l
theorem loop_deep {r r2 : List Sg} (h : cutR r = some r2) (l : List Sg) : matchP (deepS :: r) l = (match firstP (cutH r) l with | none => false | some x => matchP (deepS :: r2) (x.drop (cutH r).length)) := by
  obtain ⟨g, hg, h1, h2⟩ := cut_some h
  have := match_first deepS g deepS_5 hg (cutH r) r2 h2 l
  rw [← h1] at this
  rw [this]
  cases firstP (cutH r) l with
  | none => rfl
  | some x => exact match_deeps hg deepS_5 _ _
theorem leads_len {h l : List Sg} (e : leadsP h l = true) : h.length ≤ l.length := by
  rcases Nat.lt_or_ge l.length h.length with g | g
  · rw [leads_long h l g] at e; cases e
  · exact g
theorem cut_len : ∀ (p : List Sg), (cutH p).length ≤ p.length
  | [] => Nat.le_refl _
  | s :: p => by
    unfold cutH
    split
    · exact Nat.zero_le _
    · have := cut_len p; simp only [List.length_cons]; omega
theorem cutR_len : ∀ {p r : List Sg}, cutR p = some r → r.length < p.length
  | [], _, h => by cases h
  | s :: p, r, h => by
    unfold cutR at h
    split at h
    · injection h with h; subst h; simp
    · have := cutR_len h; simp only [List.length_cons]; omega
theorem okS_cut : ∀ {p : List Sg}, okS p → okS (cutH p)
  | [], h => h
  | s :: p, h => by
    unfold cutH
    split
    · exact fun e he => by cases he
    · intro e he
      rcases List.mem_cons.1 he with rfl | he
      · exact h _ (List.mem_cons_self ..)
      · exact okS_cut (fun e he => h e (List.mem_cons_of_mem _ he)) e he
theorem okS_cutR : ∀ {p r : List Sg}, cutR p = some r → okS p → okS r
  | [], _, h, _ => by cases h
  | s :: p, r, h, ho => by
    unfold cutR at h
    split at h
    · injection h with h; subst h; exact fun e he => ho e (List.mem_cons_of_mem _ he)
    · exact okS_cutR h (fun e he => ho e (List.mem_cons_of_mem _ he))
end Go.Proofs.YtmbbmibkjnlkkaaDoor
