/- Several texts in one: Gcp Gcq Gto Gtn Gtg Bwr. -/
import Derived.Test.YtkdlakcmhdiojaaZqac
import Derived.Test.YtkdlakcmhdiojaaProg
import Derived.WalkLawsBesides
import Derived.WalkSpells
import Derived.WalkMore
import Derived.Handy
import Derived.LoopN
import Derived.Laws.ResultCell
import Derived.Laws.Rows
import Derived.Deep.AppendLies
import Derived.Deep.DeepCutAuto
import Derived.OwnWalk
import Derived.Deep.QuietTactic
import Derived.BigQuiet
import Derived.Deep.OwnRows
import Derived.Deep.RegionWith
import Derived.Laws.MakeOwn
import Derived.Lib.BufferOwn
import Derived.Below
import Derived.Deep.Quiet
/- Compose, plain: the nodes of a stream by their numbers; how far the program's loom and the specification's walk are at a place. -/
namespace Go.Proofs.Ytkdlakcmhdiojaa
open Go.RowKit
/-- A node that is no alias. -/
def realB (l : List Ev) (j : Nat) : Bool := nodB l j && decide (kindAt l j ≠ 6)
def realsTo (l : List Ev) (k : Nat) : List Nat := (List.range k).filter (realB l)
def cntR (l : List Ev) (k : Nat) : Nat := (realsTo l k).length
/-- The number of a node: an alias has its node's. -/
def numI (l : List Ev) (j : Nat) : Int := if kindAt l j = 6 then (cntR l (defN l j).toNat : Int) else (cntR l j : Int)
/-- The nodes within u (-1: the roots), as far as they stand ahead of k, by their numbers. -/
def kidsTo (l : List Ev) (u : Int) (k : Nat) : List Int := ((List.range k).filter (inAt l u)).map (numI l)
def ndOf (l : List Ev) (j : Nat) (ks : List Int) : Nd := match l[j]? with
  | some e => ⟨e.kind, e.tag, e.text, ks⟩
  | none => ⟨0, ⟨#[]⟩, ⟨#[]⟩, ks⟩
/-- What the loom has at k: every node with the kids that were told. -/
def knotsTo (l : List Ev) (k : Nat) : List Nd := (realsTo l k).map (fun j => ndOf l j (kidsTo l (j : Int) k))
/-- What the specification has at k: a node's kids once it is closed. -/
def nodesS (l : List Ev) (k : Nat) : List Nd := (realsTo l k).map (fun j => ndOf l j (if j ∈ stk l k then [] else kidsTo l (j : Int) k))
/-- The specification's list of numbers by the events. -/
def atS (l : List Ev) (k : Nat) : List Int := (List.range l.length).map (fun j => if j < k ∧ realB l j = true then (cntR l j : Int) else 0)
def composeP (l : List Ev) : Gr × Bool := if whole l = true ∧ cntR l l.length ≤ 3000 then (⟨knotsTo l l.length, kidsTo l (-1) l.length⟩, true) else (⟨[], []⟩, false)
section
variable {l : List Ev} {k : Nat}
theorem realsTo_yes (h : realB l k = true) : realsTo l (k + 1) = realsTo l k ++ [k] := by
  unfold realsTo; rw [List.range_succ, List.filter_append]; simp [h]
theorem realsTo_no (h : realB l k = false) : realsTo l (k + 1) = realsTo l k := by
  unfold realsTo; rw [List.range_succ, List.filter_append]; simp [h]
theorem cntR_yes (h : realB l k = true) : cntR l (k + 1) = cntR l k + 1 := by unfold cntR; rw [realsTo_yes h, List.length_append]; rfl
theorem cntR_no (h : realB l k = false) : cntR l (k + 1) = cntR l k := by unfold cntR; rw [realsTo_no h]
theorem mem_reals {j : Nat} : j ∈ realsTo l k ↔ j < k ∧ realB l j = true := by unfold realsTo; rw [List.mem_filter, List.mem_range]
theorem kidsTo_yes {u : Int} (h : inAt l u k = true) : kidsTo l u (k + 1) = kidsTo l u k ++ [numI l k] := by
  unfold kidsTo; rw [List.range_succ, List.filter_append]; simp [h]
theorem kidsTo_no {u : Int} (h : inAt l u k = false) : kidsTo l u (k + 1) = kidsTo l u k := by
  unfold kidsTo; rw [List.range_succ, List.filter_append]; simp [h]
theorem kidsTo_skip {u : Int} : ∀ (d k : Nat), (∀ j, k ≤ j → j < k + d → inAt l u j = false) → kidsTo l u (k + d) = kidsTo l u k
  | 0, k, _ => rfl
  | d + 1, k, h => by
    rw [show k + (d + 1) = (k + d) + 1 by omega, kidsTo_no (h (k + d) (by omega) (by omega))]
    exact kidsTo_skip d k (fun j h1 h2 => h j h1 (by omega))
/-- A node has no kids ahead of itself. -/
theorem inAt_early {i j : Nat} (hj : j ≤ l.length) (hji : j ≤ i) : inAt l (i : Int) j = false := by
  refine not_in hj (fun hh => ?_)
  cases hs : stk l j with
  | nil => rw [hs] at hh; simp [headI] at hh
  | cons a q =>
    rw [hs] at hh
    have h1 : (a : Int) = (i : Int) := hh
    have h2 := stk_lt l j a (by rw [hs]; exact List.mem_cons_self)
    omega
theorem kidsTo_early {i : Nat} (hk : k ≤ l.length) (hki : k ≤ i + 1) : kidsTo l (i : Int) k = [] := by
  have h := kidsTo_skip (l := l) (u := (i : Int)) k 0 (fun j _ h2 => inAt_early (by omega) (by omega))
  rw [Nat.zero_add] at h
  rw [h]
  rfl
/-- Once closed, a node gets no more kids. -/
theorem inAt_gone {i j : Nat} (hik : i < k) (h : i ∉ stk l k) (hkj : k ≤ j) (hj : j ≤ l.length) : inAt l (i : Int) j = false := by
  have hg := stk_gone hik h (j - k)
  rw [show k + (j - k) = j by omega] at hg
  refine not_in hj (fun hh => hg ?_)
  cases hs : stk l j with
  | nil => rw [hs] at hh; simp [headI] at hh
  | cons a q =>
    rw [hs] at hh
    have h1 : (a : Int) = (i : Int) := hh
    rw [show i = a by omega]
    exact List.mem_cons_self
theorem kidsTo_gone {i : Nat} (hik : i < k) (h : i ∉ stk l k) (d : Nat) (hd : k + d ≤ l.length) : kidsTo l (i : Int) (k + d) = kidsTo l (i : Int) k :=
  kidsTo_skip d k (fun _ h1 h2 => inAt_gone hik h h1 (by omega))
theorem real_node {e : Ev} (he : l[k]? = some e) : realB l k = (nodE e && decide (e.kind ≠ 6)) := by unfold realB; rw [nodB_some he, kind_at he]
/-- At the end of the stream every node is closed: both have the same. -/
theorem nodes_end (h : stk l k = []) : nodesS l k = knotsTo l k := by
  unfold nodesS knotsTo
  rw [h]
  simp
theorem ndOf_at {j : Nat} {e : Ev} (he : l[j]? = some e) (ks : List Int) : ndOf l j ks = ⟨e.kind, e.tag, e.text, ks⟩ := by unfold ndOf; rw [he]
/-- A collection begins. -/
theorem nodesS_col {e : Ev} (he : l[k]? = some e) (hc : colE e = true) : nodesS l (k + 1) = nodesS l k ++ [⟨e.kind, e.tag, e.text, []⟩] := by
  have hk : k < l.length := (List.getElem?_eq_some_iff.1 he).1
  have hr : realB l k = true := by
    rw [real_node he]
    unfold colE at hc
    unfold nodE
    simp at hc ⊢
    omega
  unfold nodesS
  rw [realsTo_yes hr, List.map_append, stk_col he hc]
  congr 1
  · refine List.map_congr_left (fun j hj => ?_)
    have hjk := (mem_reals.1 hj).1
    have e1 : (j ∈ k :: stk l k) ↔ j ∈ stk l k := by
      rw [List.mem_cons]
      exact ⟨fun h => h.resolve_left (by omega), .inr⟩
    by_cases hm : j ∈ stk l k
    · rw [if_pos (e1.2 hm), if_pos hm]
    · rw [if_neg (fun h => hm (e1.1 h)), if_neg hm, kidsTo_gone hjk hm 1 (by omega)]
  · rw [List.map_singleton, if_pos List.mem_cons_self, ndOf_at he]
/-- A text. -/
theorem nodesS_text {e : Ev} (he : l[k]? = some e) (h5 : e.kind = 5) : nodesS l (k + 1) = nodesS l k ++ [⟨e.kind, e.tag, e.text, []⟩] := by
  have hk : k < l.length := (List.getElem?_eq_some_iff.1 he).1
  have hr : realB l k = true := by
    rw [real_node he]
    unfold nodE
    simp [h5]
  have hst : stk l (k + 1) = stk l k := stk_else he (by unfold colE; simp [h5]) (by omega)
  unfold nodesS
  rw [realsTo_yes hr, List.map_append, hst]
  congr 1
  · refine List.map_congr_left (fun j hj => ?_)
    have hjk := (mem_reals.1 hj).1
    by_cases hm : j ∈ stk l k
    · rw [if_pos hm, if_pos hm]
    · rw [if_neg hm, if_neg hm, kidsTo_gone hjk hm 1 (by omega)]
  · have hkk : k ∉ stk l k := fun h => absurd (stk_lt l k k h) (Nat.lt_irrefl _)
    rw [List.map_singleton, if_neg hkk, kidsTo_early (by omega) (Nat.le_refl _), ndOf_at he]
/-- What is no node and closes nothing, or an alias, leaves the nodes. -/
theorem nodesS_else {e : Ev} (he : l[k]? = some e) (hr : realB l k = false) (hc : colE e = false) (h7 : e.kind ≠ 7) : nodesS l (k + 1) = nodesS l k := by
  have hk : k < l.length := (List.getElem?_eq_some_iff.1 he).1
  unfold nodesS
  rw [realsTo_no hr, stk_else he hc h7]
  refine List.map_congr_left (fun j hj => ?_)
  have hjk := (mem_reals.1 hj).1
  by_cases hm : j ∈ stk l k
  · rw [if_pos hm, if_pos hm]
  · rw [if_neg hm, if_neg hm, kidsTo_gone hjk hm 1 (by omega)]
/-- The place of a node in the list of nodes is its number. -/
theorem reals_at {i : Nat} (hr : realB l i = true) : ∀ (d : Nat), (realsTo l (i + 1 + d))[cntR l i]? = some i
  | 0 => by
    rw [Nat.add_zero, realsTo_yes hr]
    unfold cntR
    rw [List.getElem?_append_right (Nat.le_refl _), Nat.sub_self]
    rfl
  | d + 1 => by
    have ih := reals_at hr d
    rw [show i + 1 + (d + 1) = (i + 1 + d) + 1 by omega]
    cases h : realB l (i + 1 + d) with
    | true => rw [realsTo_yes h, List.getElem?_append_left (List.getElem?_eq_some_iff.1 ih).1]; exact ih
    | false => rw [realsTo_no h]; exact ih
/-- A collection ends. -/
theorem nodesS_end {i : Nat} {r : List Nat} {e ei : Ev} (he : l[k]? = some e) (h7 : e.kind = 7) (hs : stk l k = i :: r) (hi : l[i]? = some ei) :
    nodesS l (k + 1) = (nodesS l k).set (cntR l i) ⟨ei.kind, ei.tag, ei.text, kidsTo l (i : Int) k⟩ := by
  have hk : k < l.length := (List.getElem?_eq_some_iff.1 he).1
  have hik : i < k := stk_lt l k i (by rw [hs]; exact List.mem_cons_self)
  obtain ⟨ei', hei, hci⟩ := stk_is l k i (by rw [hs]; exact List.mem_cons_self)
  rw [hi] at hei
  obtain rfl := Option.some.inj hei
  have hri : realB l i = true := by
    rw [real_node hi]
    unfold colE at hci
    unfold nodE
    simp at hci ⊢
    omega
  have hrk : realB l k = false := by
    rw [real_node he]
    unfold nodE
    simp [h7]
  have hp := stk_down l k
  rw [hs] at hp
  have hpi := (List.pairwise_cons.1 hp).1
  have hat := reals_at hri (k - (i + 1))
  rw [show i + 1 + (k - (i + 1)) = k by omega] at hat
  have hnk : nodB l k = false := by rw [nodB_some he]; unfold nodE; simp [h7]
  have hno : ∀ u, inAt l u k = false := fun u => by unfold inAt; rw [hnk]; rfl
  unfold nodesS
  rw [realsTo_no hrk, stk_end he h7, hs, List.tail_cons]
  apply List.ext_getElem?
  intro m
  rw [List.getElem?_set, List.getElem?_map, List.getElem?_map]
  by_cases hm : cntR l i = m
  · subst hm
    rw [if_pos rfl, hat]
    have hlen : cntR l i < ((realsTo l k).map (fun j => ndOf l j (if j ∈ i :: r then [] else kidsTo l (j : Int) k))).length := by rw [List.length_map]; exact (List.getElem?_eq_some_iff.1 hat).1
    rw [if_pos hlen]
    simp only [Option.map_some]
    rw [if_neg (fun h => absurd (hpi i h) (Nat.lt_irrefl _)), kidsTo_no (hno _), ndOf_at hi]
  · rw [if_neg hm]
    cases hj : (realsTo l k)[m]? with
    | none => rfl
    | some j =>
      simp only [Option.map_some]
      have hjm := mem_reals.1 (List.mem_of_getElem? hj)
      have hji : j ≠ i := by
        intro h'
        subst h'
        have hnd : (realsTo l k).Nodup := (List.nodup_range).filter _
        exact hm ((List.getElem?_inj (List.getElem?_eq_some_iff.1 hat).1 hnd).1 (hat.trans hj.symm))
      have e1 : (j ∈ i :: r) ↔ j ∈ r := by
        rw [List.mem_cons]
        exact ⟨fun h => h.resolve_left hji, .inr⟩
      rw [kidsTo_no (hno _)]
      by_cases hm2 : j ∈ r
      · rw [if_pos hm2, if_pos (e1.2 hm2)]
      · rw [if_neg hm2, if_neg (fun h => hm2 (e1.1 h))]
/-- A kid within the collection that is open innermost: its number comes to the kids. -/
theorem kids_next {i m : Nat} {r : List Nat} {e : Ev} (hs : stk l k = i :: r) (he : l[k]? = some e) (hn : nodE e = true) (hE : endN l k = (m : Int)) :
    kidsTo l (i : Int) (m + 1) = kidsTo l (i : Int) k ++ [numI l k] := by
  have hk : k < l.length := (List.getElem?_eq_some_iff.1 he).1
  obtain ⟨hst, hkm, hml⟩ := stk_behind he hn hE
  have hik : i < k := stk_lt l k i (by rw [hs]; exact List.mem_cons_self)
  have hin : inAt l i k = true := by
    unfold inAt
    rw [nodB_some he, hn, up_head l k (by omega), hs]
    simp [headI]
  have hb : ∀ j, k + 1 ≤ j → j < k + 1 + (m - k) → inAt l i j = false := by
    intro j h1 h2
    have hm2 := (open_iff he hn (by omega) (by omega)).2 (.inr (show (j : Int) ≤ endN l k by omega))
    have := head_max hm2
    exact not_in (by omega) (by omega)
  rw [show m + 1 = k + 1 + (m - k) by omega, kidsTo_skip _ _ hb, kidsTo_yes hin]
theorem atS_real (hr : realB l k = true) (hk : k < l.length) : atS l (k + 1) = (atS l k).set k (cntR l k : Int) := by
  apply List.ext_getElem?
  intro j
  unfold atS
  rw [List.getElem?_set, List.length_map, List.length_range, List.getElem?_map, List.getElem?_map]
  by_cases hj : j < l.length
  · rw [List.getElem?_range hj]
    simp only [Option.map_some]
    by_cases e : k = j
    · subst e
      rw [if_pos rfl, if_pos hj, if_pos ⟨Nat.lt_succ_self _, hr⟩]
    · rw [if_neg e]
      by_cases h : j < k ∧ realB l j = true
      · rw [if_pos h, if_pos ⟨by omega, h.2⟩]
      · rw [if_neg h, if_neg (fun h' => h ⟨by omega, h'.2⟩)]
  · rw [List.getElem?_eq_none (by rw [List.length_range]; omega)]
    split
    · rename_i e
      subst e
      omega
    · rfl
theorem atS_same (hr : realB l k = false) : atS l (k + 1) = atS l k := by
  unfold atS
  refine List.map_congr_left (fun j _ => ?_)
  by_cases h : j < k ∧ realB l j = true
  · rw [if_pos h, if_pos ⟨by omega, h.2⟩]
  · rw [if_neg h, if_neg (fun h' => h ⟨by
      have h1 := h'.1
      have h2 : j ≠ k := by
        intro e
        subst e
        rw [hr] at h'
        exact absurd h'.2 (by decide)
      omega, h'.2⟩)]
end
end Go.Proofs.Ytkdlakcmhdiojaa
/- Compose, plain: what a whole stream keeps to. -/
namespace Go.Proofs.Ytkdlakcmhdiojaa
open Go.RowKit
theorem nst_nil {first : Bool} {doc : Int} {st : List Int} : nst first doc st [] = false := by unfold nst; rfl
/-- A nested stream that doesn't end with a fault has nothing open at its end. -/
theorem stk_all {l : List Ev} (h : nested l = true) (h10 : kindAt l (l.length - 1) ≠ 10) : stk l l.length = [] := by
  have hpos : 0 < l.length := by
    cases l with
    | nil => unfold nested at h; rw [nst_nil] at h; cases h
    | cons a t => simp
  obtain ⟨k, hk⟩ : ∃ k, l.length = k + 1 := ⟨l.length - 1, by omega⟩
  obtain ⟨e, he⟩ : ∃ e, l[k]? = some e := ⟨_, List.getElem?_eq_getElem (by omega)⟩
  rw [show l.length - 1 = k by omega, kind_at he] at h10
  obtain ⟨first, doc, st, h1, h2, _, h4, _, _⟩ := nst_at h k (by omega)
  rw [drop_ev he, List.drop_eq_nil_of_le (by omega)] at h1
  have hok := (ns_at h he).ok
  have hfi : (first != (e.kind == 1)) = false := by
    cases h' : (first != (e.kind == 1))
    · rfl
    · exact absurd (nst_first h1 hok h') (by simp)
  have hi := nst_in h1 hok hfi
  rw [if_neg h10] at hi
  have h9 : e.kind = 9 ∧ doc = 0 := by
    by_cases c2 : e.kind = 2
    · rw [if_pos c2] at hi
      split at hi
      · rw [nst_nil] at hi; cases hi
      · cases hi
    rw [if_neg c2] at hi
    by_cases c3 : 3 ≤ e.kind ∧ e.kind ≤ 6
    · rw [if_pos c3] at hi
      split at hi
      · split at hi
        · rw [nst_nil] at hi; cases hi
        · cases hi
      · rw [nst_nil] at hi; cases hi
    rw [if_neg c3] at hi
    by_cases c7 : e.kind = 7
    · rw [if_pos c7] at hi
      split at hi
      · cases hi
      · split at hi
        · cases hi
        · rw [nst_nil] at hi; cases hi
    rw [if_neg c7] at hi
    by_cases c8 : e.kind = 8
    · rw [if_pos c8] at hi
      split at hi
      · rw [nst_nil] at hi; cases hi
      · cases hi
    rw [if_neg c8] at hi
    by_cases c9 : e.kind = 9
    · rw [if_pos c9] at hi
      rw [Bool.and_eq_true] at hi
      exact ⟨c9, of_decide_eq_true hi.2⟩
    · rw [if_neg c9, nst_nil] at hi
      cases hi
  have hst := h4 (by omega)
  have hs0 : stk l k = [] := List.length_eq_zero_iff.1 (by rw [← h2, hst]; rfl)
  rw [hk, stk_else he (by unfold colE; simp [h9.1]) (by omega), hs0]
theorem whole_parts {l : List Ev} (h : whole l = true) : nested l = true ∧ stk l l.length = [] ∧ ∀ k, k < l.length → tiedAt l k = true := by
  unfold whole at h
  rw [Bool.and_eq_true] at h
  obtain ⟨h1, h2⟩ := h
  unfold tied at h1
  rw [Bool.and_eq_true] at h1
  refine ⟨h1.1, stk_all h1.1 (of_decide_eq_true h2), fun k hk => ?_⟩
  have h3 := h1.2
  unfold tiedTo at h3
  exact List.all_eq_true.1 h3 k (List.mem_range.2 hk)
/-- Every node ends. -/
theorem ends {l : List Ev} (h : stk l l.length = []) {i : Nat} {e : Ev} (he : l[i]? = some e) (hn : nodE e = true) : ∃ m : Nat, endN l i = (m : Int) := by
  have hi : i < l.length := (List.getElem?_eq_some_iff.1 he).1
  have h1 := open_iff he hn hi (Nat.le_refl _)
  rw [h] at h1
  exact ⟨(endN l i).toNat, by
    have : ¬ (endN l i < 0 ∨ (l.length : Int) ≤ endN l i) := fun h2 => absurd (h1.2 h2) (by simp)
    omega⟩
/-- Within an open collection stands a node, or its end. -/
theorem kid_or_end {l : List Ev} (h : nested l = true) (h0 : stk l l.length = []) {k i : Nat} {r : List Nat} (hs : stk l k = i :: r) (hk : k ≤ l.length) : ∃ e, l[k]? = some e ∧ (e.kind = 7 ∨ nodE e = true) := by
  have hkl : k < l.length := by
    rcases Nat.lt_or_ge k l.length with h1 | h1
    · exact h1
    · rw [show k = l.length by omega, h0] at hs
      cases hs
  obtain ⟨e, he⟩ : ∃ e, l[k]? = some e := ⟨_, List.getElem?_eq_getElem hkl⟩
  refine ⟨e, he, ?_⟩
  by_cases h7 : e.kind = 7
  · exact .inl h7
  · right
    cases hn : nodE e with
    | true => rfl
    | false =>
      have h1 := (ns_at h he).last hn h7 (by rw [hs]; simp)
      have hc : colE e = false := by
        cases hc : colE e with
        | false => rfl
        | true => rw [col_node hc] at hn; cases hn
      have h2 := stk_else he hc h7
      rw [h1, h0, hs] at h2
      cases h2
/-- Of an alias: its node stands ahead of it, and is no alias. -/
theorem alias_to {l : List Ev} (h : nested l = true) {i : Nat} {e : Ev} (he : l[i]? = some e) (h6 : e.kind = 6) (ht : tiedAt l i = true) : ∃ m : Nat, defN l i = (m : Int) ∧ m < i ∧ realB l m = true ∧ numI l i = (cntR l m : Int) := by
  have hi : i < l.length := (List.getElem?_eq_some_iff.1 he).1
  have h0 : 0 ≤ defN l i := by
    unfold tiedAt at ht
    rw [kind_at he, decide_eq_true h6] at ht
    simpa using ht
  have hd : defN l i = defG l i e.text i := by unfold defN; rw [he]
  have hl := defG_last l i e.text i (by omega)
  obtain ⟨m, hm, hlm⟩ : ∃ m : Nat, defN l i = (m : Int) ∧ lastN l e.text i = some m := by
    cases hc : lastN l e.text i with
    | none => rw [hc] at hl; simp only [] at hl; omega
    | some m =>
      rw [hc] at hl
      simp only [] at hl
      split at hl
      · omega
      · split at hl
        · omega
        · exact ⟨m, by omega, rfl⟩
  obtain ⟨hmi, e2, he2, hn2⟩ := lastN_lt l e.text i m hlm
  refine ⟨m, hm, hmi, ?_, ?_⟩
  · rw [real_node he2, nam_node hn2, Bool.true_and]
    refine decide_eq_true (fun h62 => ?_)
    have := alias_bare (ns_at h he2).ok h62
    unfold namE at hn2
    rw [this] at hn2
    simp at hn2
  · unfold numI
    rw [kind_at he, if_pos h6, hm]
    rfl
theorem atS_at {l : List Ev} {k m : Nat} (hm : m < k) (hl : m < l.length) (hr : realB l m = true) : (atS l k)[m]? = some (cntR l m : Int) := by
  unfold atS
  rw [List.getElem?_map, List.getElem?_range hl]
  simp only [Option.map_some]
  rw [if_pos ⟨hm, hr⟩]
theorem atS_len (l : List Ev) (k : Nat) : (atS l k).length = l.length := by unfold atS; rw [List.length_map, List.length_range]
theorem nodesS_len (l : List Ev) (k : Nat) : (nodesS l k).length = cntR l k := by unfold nodesS cntR; rw [List.length_map]
theorem num_real {l : List Ev} {i : Nat} {e : Ev} (he : l[i]? = some e) (h6 : e.kind ≠ 6) : numI l i = (cntR l i : Int) := by unfold numI; rw [kind_at he, if_neg h6]
end Go.Proofs.Ytkdlakcmhdiojaa
/- A copy of a graph, which is the call's own. -/
namespace Go.Proofs.Ytkdlakcmhdiojaa
open Go.ChangeShapes Go.WideShapes Go.ChangeAt Go.RowKit Go.Deep
def isSlG (v : Value) : Prop := ∃ a n c, v = .slice a n c
def ilV (l : List Int) : List Value := l.map (Value.int .i64)
theorem ilV_len (l : List Int) : (ilV l).length = l.length := by unfold ilV; simp
theorem g_own_of_row {w : World} {g t n : Nat} {f : Nat → Value} {size m : Nat} {xs : List Value} (h : w.rowIs g t (m * size) f) (hn : n = m) (hx : xs.length = m * size) (hf : ∀ i, i < m * size → xs[i]? = some (f i)) (hm : m ≤ maxLen) {lo : Nat} (hlo : lo ≤ g) :
    w.ownsRow lo t size (.slice (some ⟨g, 0, none⟩) n n) m xs := by
  subst hn
  obtain ⟨c, hb, hs, hc⟩ := h
  refine ⟨hx, .inr ⟨g, n, c, rfl, hlo, hb, Nat.le_refl _, hm, hs, ?_⟩⟩
  apply List.ext_getElem?
  intro i
  rw [List.getElem?_take]
  by_cases hi : i < n * size
  · rw [if_pos hi, Array.getElem?_toList, hc i hi, hf i hi]
  · rw [if_neg hi, List.getElem?_eq_none (by omega)]
theorem g_row_block {w w' : World} {lo e sz : Nat} {v : Value} {n : Nat} {xs : List Value} (h : w.ownsRow lo e sz v n xs) (hb : ∀ g, v.ownBlock = some g → w'.heap[g]? = w.heap[g]?) : w'.ownsRow lo e sz v n xs := by
  refine ⟨h.1, ?_⟩
  rcases h.2 with hn | ⟨g, cap, cur, rfl, hlo, hg, rest⟩
  · exact .inl hn
  · exact .inr ⟨g, cap, cur, rfl, hlo, by rw [hb g rfl]; exact hg, rest⟩
theorem g_row_below {w w' : World} {lo e sz : Nat} {v : Value} {n : Nat} {xs : List Value} (h : w.ownsRow lo e sz v n xs) (hb : Below w.heap.size w w') : w'.ownsRow lo e sz v n xs :=
  g_row_block h (fun g hg => hb.block g (h.lt g hg).2)
theorem g_row_lower {w : World} {lo lo' e sz : Nat} {v : Value} {n : Nat} {xs : List Value} (h : w.ownsRow lo e sz v n xs) (hl : lo' ≤ lo) : w.ownsRow lo' e sz v n xs := by
  refine ⟨h.1, ?_⟩
  rcases h.2 with hn | ⟨g, cap, cur, e1, e2, rest⟩
  · exact .inl hn
  · exact .inr ⟨g, cap, cur, e1, by omega, rest⟩
theorem infoIt : (Try.prog.info? 3).map (fun i => (i.zero, i.size, i.bytes)) = some (some (.int .i64 0), 1, 8) := by kernel_rfl
def zrowN : Array Value := #[.int .i64 0, .string ByteArray.empty, .string ByteArray.empty, .slice none 0 0]
theorem infoNd : (Try.prog.info? 70).map (fun i => (i.zero, i.size, i.bytes)) = some (some (.agg zrowN), 4, 64) := by kernel_rfl
theorem il_of_own {w : World} {lo : Nat} {v : Value} {l : List Int} (h : w.ownsRow lo 3 1 v l.length (ilV l)) : IlAt w v l := by
  by_cases hz : l = []
  · subst hz
    left
    rcases h.2 with ⟨e, _⟩ | ⟨g, cap, cur, e, _⟩
    · exact ⟨rfl, _, _, e⟩
    · exact ⟨rfl, _, _, e⟩
  · right
    have hpos : 0 < l.length := List.length_pos_iff.2 hz
    rcases h.2 with ⟨_, e⟩ | ⟨g, cap, cur, rfl, _, hg, _⟩
    · omega
    · refine ⟨hz, g, 0, cap, rfl, (Array.getElem?_eq_some_iff.1 hg).1, fun i n hi => ?_⟩
      have hx : (ilV l)[i]? = some (.int .i64 n) := by unfold ilV; rw [List.getElem?_map, hi]; rfl
      have h1 := h.cells (g := g) rfl i _ hx
      have a1 : (⟨g, 0, none⟩ : Addr).add i = ⟨g, i, none⟩ := by unfold Addr.add; split <;> simp_all
      rw [a1] at h1
      rw [Nat.zero_add]
      exact h1
theorem ilV_step {rs : List Int} {k : Nat} (hk : rs.length = k) (n : Int) (j : Nat) (d : Value) : (if j = k then Value.int .i64 n else (ilV rs)[j]?.getD d) = (ilV (rs ++ [n]))[j]?.getD d := by
  have e : ilV (rs ++ [n]) = ilV rs ++ [.int .i64 n] := by unfold ilV; simp
  have hl := ilV_len rs
  rw [e, List.getElem?_append]
  by_cases h1 : j < (ilV rs).length
  · rw [if_pos h1, if_neg (by omega)]
  · rw [if_neg h1]
    by_cases h2 : j = k
    · rw [if_pos h2, show j - (ilV rs).length = 0 by omega]
      rfl
    · rw [if_neg h2, List.getElem?_eq_none (l := ilV rs) (by omega), List.getElem?_eq_none (by simp; omega)]
section
variable {w : World} {b : Nat} {x0 x1 x2 x3 : Value} {t : TypeId}
theorem n4_0 (h : w.heap[b]? = some (.cells #[x0, x1, x2, x3] t (0, 0))) : w.cell? ⟨b, 0, none⟩ = some x0 := by simp [World.cell?, h]
theorem n4_1 (h : w.heap[b]? = some (.cells #[x0, x1, x2, x3] t (0, 0))) : w.cell? ⟨b, 1, none⟩ = some x1 := by simp [World.cell?, h]
theorem n4_2 (h : w.heap[b]? = some (.cells #[x0, x1, x2, x3] t (0, 0))) : w.cell? ⟨b, 2, none⟩ = some x2 := by simp [World.cell?, h]
theorem n4_3 (h : w.heap[b]? = some (.cells #[x0, x1, x2, x3] t (0, 0))) : w.cell? ⟨b, 3, none⟩ = some x3 := by simp [World.cell?, h]
theorem n4_f (h : w.heap[b]? = some (.cells #[x0, x1, x2, x3] t (0, 0))) (i : Nat) : w.frozen? ⟨b, i, none⟩ = false := by simp [World.frozen?, h]
theorem n4_set3 (h : w.heap[b]? = some (.cells #[x0, x1, x2, x3] t (0, 0))) (a3 : Value) : (w.setCell ⟨b, 3, none⟩ a3).heap[b]? = some (.cells #[x0, x1, x2, a3] t (0, 0)) := by
  simp [World.setCell, Array.getElem?_modify, h]
theorem n4_setAll (h : w.heap[b]? = some (.cells #[x0, x1, x2, x3] t (0, 0))) (a0 a1 a2 a3 : Value) :
    ((((w.setCell ⟨b, 0, none⟩ a0).setCell ⟨b, 1, none⟩ a1).setCell ⟨b, 2, none⟩ a2).setCell ⟨b, 3, none⟩ a3).heap[b]? = some (.cells #[a0, a1, a2, a3] t (0, 0)) := by
  simp [World.setCell, Array.getElem?_modify, h]
theorem n4_below {lo : Nat} {W : World} (hb : Below lo W w) (hlo : lo ≤ b) (a0 a1 a2 a3 : Value) : Below lo W ((((w.setCell ⟨b, 0, none⟩ a0).setCell ⟨b, 1, none⟩ a1).setCell ⟨b, 2, none⟩ a2).setCell ⟨b, 3, none⟩ a3) :=
  (((hb.setCell (p := ⟨b, 0, none⟩) hlo a0).setCell (p := ⟨b, 1, none⟩) hlo a1).setCell (p := ⟨b, 2, none⟩) hlo a2).setCell (p := ⟨b, 3, none⟩) hlo a3
theorem n4_other (a0 a1 a2 a3 : Value) {k : Nat} (hk : k ≠ b) : ((((w.setCell ⟨b, 0, none⟩ a0).setCell ⟨b, 1, none⟩ a1).setCell ⟨b, 2, none⟩ a2).setCell ⟨b, 3, none⟩ a3).heap[k]? = w.heap[k]? := by
  rw [heap_setCell_other _ _ _ _ hk, heap_setCell_other _ _ _ _ hk, heap_setCell_other _ _ _ _ hk, heap_setCell_other _ _ _ _ hk]
end
end Go.Proofs.Ytkdlakcmhdiojaa
/- A copy of a list of nodes and of a graph, which is the call's own. -/
namespace Go.Proofs.Ytkdlakcmhdiojaa
open Go.ChangeShapes Go.WideShapes Go.ChangeAt Go.RowKit Go.Deep
def cellsN : List Nd → List Value → List Value
  | n :: t, v :: u => .int .i64 n.kind :: .string n.tag :: .string n.text :: v :: cellsN t u
  | _, _ => []
theorem cellsN_len : ∀ (ns : List Nd) (vs : List Value), vs.length = ns.length → (cellsN ns vs).length = ns.length * 4
  | [], [], _ => rfl
  | n :: t, v :: u, h => by
    have := cellsN_len t u (by simpa using h)
    simp only [cellsN, List.length_cons, this]
    omega
  | [], _ :: _, h => by simp at h
  | _ :: _, [], h => by simp at h
theorem cellsN_snoc : ∀ (ns : List Nd) (vs : List Value) (n : Nd) (v : Value), vs.length = ns.length → cellsN (ns ++ [n]) (vs ++ [v]) = cellsN ns vs ++ [.int .i64 n.kind, .string n.tag, .string n.text, v]
  | [], [], _, _, _ => rfl
  | m :: t, x :: u, n, v, h => by
    have := cellsN_snoc t u n v (by simpa using h)
    simp only [List.cons_append, cellsN, this]
  | [], _ :: _, _, _, h => by simp at h
  | _ :: _, [], _, _, h => by simp at h
def zNd (j : Nat) : Value := zrowN[j % 4]!
theorem cellsN_step {ns : List Nd} {vs : List Value} {k : Nat} (hk : ns.length = k) (hv : vs.length = ns.length) (n : Nd) (v : Value) (j : Nat) :
    (if j = k * 4 + 3 then v else if j = k * 4 + 2 then Value.string n.text else if j = k * 4 + 1 then Value.string n.tag else if j = k * 4 then Value.int .i64 n.kind else (cellsN ns vs)[j]?.getD (zNd j)) = (cellsN (ns ++ [n]) (vs ++ [v]))[j]?.getD (zNd j) := by
  have hl := cellsN_len ns vs hv
  rw [cellsN_snoc ns vs n v hv, List.getElem?_append]
  by_cases h1 : j < (cellsN ns vs).length
  · rw [if_pos h1]
    repeat rw [if_neg (by omega)]
  · rw [if_neg h1]
    by_cases h9 : j < k * 4 + 4
    · obtain ⟨d, hd, hd4⟩ : ∃ d, j = k * 4 + d ∧ d < 4 := ⟨j - k * 4, by omega, by omega⟩
      have e : j - (cellsN ns vs).length = d := by omega
      rw [e]
      subst hd
      clear e h1 h9 hl
      rcases (show d = 0 ∨ d = 1 ∨ d = 2 ∨ d = 3 by omega) with rfl | rfl | rfl | rfl
      all_goals
        (repeat (first | rw [if_pos (by omega)] | rw [if_neg (by omega)]))
        rfl
    · repeat rw [if_neg (by omega)]
      rw [List.getElem?_eq_none (l := cellsN ns vs) (by omega), List.getElem?_eq_none (by simp; omega)]
/-- The lists of kids, each in a block of its own. -/
structure KidsOwn (lo : Nat) (w : World) (vs : List Value) (ns : List Nd) : Prop where
  len : vs.length = ns.length
  own : ∀ (i : Nat) (v : Value) (n : Nd), vs[i]? = some v → ns[i]? = some n → w.ownsRow lo 3 1 v n.kids.length (ilV n.kids)
  apart : ∀ (i j : Nat) (a b : Value) (x : Nat), i < j → vs[i]? = some a → vs[j]? = some b → a.ownBlock = some x → b.ownBlock ≠ some x
theorem KidsOwn.nil (lo : Nat) (w : World) : KidsOwn lo w [] [] := ⟨rfl, fun i v n h => by simp at h, fun i j a b x _ h => by simp at h⟩
theorem KidsOwn.get {lo : Nat} {w : World} {vs : List Value} {ns : List Nd} (h : KidsOwn lo w vs ns) {i : Nat} {v : Value} (hv : vs[i]? = some v) : ∃ n, ns[i]? = some n := by
  have : i < vs.length := by
    rcases Nat.lt_or_ge i vs.length with h' | h'
    · exact h'
    · rw [List.getElem?_eq_none h'] at hv; cases hv
  exact ⟨_, List.getElem?_eq_getElem (by rw [← h.len]; exact this)⟩
theorem KidsOwn.lt {lo : Nat} {w : World} {vs : List Value} {ns : List Nd} (h : KidsOwn lo w vs ns) {i : Nat} {v : Value} {x : Nat} (hv : vs[i]? = some v) (hx : v.ownBlock = some x) : lo ≤ x ∧ x < w.heap.size := by
  obtain ⟨n, hn⟩ := h.get hv
  exact (h.own i v n hv hn).lt x hx
theorem KidsOwn.block {lo : Nat} {w w' : World} {vs : List Value} {ns : List Nd} (h : KidsOwn lo w vs ns) (hb : ∀ (i : Nat) (v : Value) (x : Nat), vs[i]? = some v → v.ownBlock = some x → w'.heap[x]? = w.heap[x]?) : KidsOwn lo w' vs ns :=
  ⟨h.len, fun i v n hv hn => g_row_block (h.own i v n hv hn) (fun x hx => hb i v x hv hx), h.apart⟩
theorem KidsOwn.later {lo : Nat} {w w' : World} {vs : List Value} {ns : List Nd} (h : KidsOwn lo w vs ns) (hb : Below w.heap.size w w') : KidsOwn lo w' vs ns :=
  h.block (fun _ _ x hv hx => hb.block x (h.lt hv hx).2)
theorem KidsOwn.snoc {lo : Nat} {w w' : World} {vs : List Value} {ns : List Nd} {n : Nd} {v : Value} (h : KidsOwn lo w vs ns) (hb : Below w.heap.size w w') (hlo : lo ≤ w.heap.size) (hv : w'.ownsRow w.heap.size 3 1 v n.kids.length (ilV n.kids)) : KidsOwn lo w' (vs ++ [v]) (ns ++ [n]) := by
  have h' := h.later hb
  have cut : ∀ (i : Nat) (a : Value), (vs ++ [v])[i]? = some a → vs[i]? = some a ∨ (i = vs.length ∧ a = v) := fun i a hi => by
    rcases Nat.lt_or_ge i vs.length with h1 | h1
    · rw [List.getElem?_append_left h1] at hi
      exact .inl hi
    · rw [List.getElem?_append_right h1] at hi
      rcases Nat.eq_zero_or_pos (i - vs.length) with h2 | h2
      · rw [h2] at hi
        obtain rfl : v = a := by simpa using hi
        exact .inr ⟨by omega, rfl⟩
      · rw [List.getElem?_eq_none (by simp; omega)] at hi; cases hi
  refine ⟨by simp [h.len], fun i a m hi hm => ?_, fun i j a b x hij hi hj hx => ?_⟩
  · rcases cut i a hi with h1 | ⟨h1, rfl⟩
    · obtain ⟨m', hm'⟩ := h.get h1
      have hlt : i < ns.length := (List.getElem?_eq_some_iff.1 hm').1
      rw [List.getElem?_append_left hlt] at hm
      exact h'.own i a m h1 hm
    · rw [List.getElem?_append_right (by rw [h1, h.len]; exact Nat.le_refl _), h1, h.len, Nat.sub_self] at hm
      obtain rfl : n = m := by simpa using hm
      exact g_row_lower hv hlo
  · rcases cut i a hi with h1 | ⟨h1, rfl⟩
    · rcases cut j b hj with h2 | ⟨h2, rfl⟩
      · exact h.apart i j a b x hij h1 h2 hx
      · intro hbx
        have := (h.lt h1 hx).2
        have := (hv.lt x hbx).1
        omega
    · rcases cut j b hj with h2 | ⟨h2, _⟩
      · have := (List.getElem?_eq_some_iff.1 h2).1
        omega
      · omega
theorem own_type {w : World} {lo e sz : Nat} {v : Value} {n : Nat} {xs : List Value} (h : w.ownsRow lo e sz v n xs) {x : Nat} (hx : v.ownBlock = some x) : ∃ cs fr, w.heap[x]? = some (.cells cs e fr) := by
  rcases h.2 with ⟨rfl, _⟩ | ⟨g, cap, cur, rfl, _, hg, _⟩
  · simp [Value.ownBlock] at hx
  · simp [Value.ownBlock] at hx
    subst hx
    exact ⟨_, _, hg⟩
end Go.Proofs.Ytkdlakcmhdiojaa
/- A copy of a graph, which is the call's own; what is owned can be read. -/
namespace Go.Proofs.Ytkdlakcmhdiojaa
open Go.ChangeShapes Go.WideShapes Go.ChangeAt Go.RowKit Go.Deep
/-- A graph of the call's own: its nodes, their kids and its roots, each list in a block of its own. -/
structure GOwn (lo : Nat) (w : World) (nv rv : Value) (g : Gr) (vs : List Value) : Prop where
  nodes : w.ownsRow lo 70 4 nv g.nodes.length (cellsN g.nodes vs)
  kids : KidsOwn lo w vs g.nodes
  roots : w.ownsRow lo 3 1 rv g.roots.length (ilV g.roots)
  apart : ∀ (i : Nat) (a : Value) (x : Nat), vs[i]? = some a → a.ownBlock = some x → rv.ownBlock ≠ some x
theorem cellsN_at : ∀ (ns : List Nd) (vs : List Value) (i : Nat) (n : Nd) (v : Value), ns[i]? = some n → vs[i]? = some v → ∀ j u, [Value.int .i64 n.kind, .string n.tag, .string n.text, v][j]? = some u → (cellsN ns vs)[i * 4 + j]? = some u
  | [], _, i, n, v, h, _, _, _, _ => by simp at h
  | _ :: _, [], i, n, v, _, h, _, _, _ => by simp at h
  | m :: t, x :: y, 0, n, v, h, h', j, u, hu => by
    obtain rfl : m = n := by simpa using h
    obtain rfl : x = v := by simpa using h'
    have hj : j < 4 := (List.getElem?_eq_some_iff.1 hu).1
    rw [Nat.zero_mul, Nat.zero_add, cellsN]
    match j, hj, hu with
    | 0, _, hu => exact hu
    | 1, _, hu => exact hu
    | 2, _, hu => exact hu
    | 3, _, hu => exact hu
  | m :: t, x :: y, i + 1, n, v, h, h', j, u, hu => by
    rw [cellsN, show (i + 1) * 4 + j = (i * 4 + j) + 4 by omega]
    exact cellsN_at t y i n v (by simpa using h) (by simpa using h') j u hu
theorem nl_of_own {w : World} {lo : Nat} {nv : Value} {ns : List Nd} {vs : List Value} (h : w.ownsRow lo 70 4 nv ns.length (cellsN ns vs)) (hk : KidsOwn lo w vs ns) : NlAt w nv ns := by
  by_cases hz : ns = []
  · subst hz
    left
    rcases h.2 with ⟨e, _⟩ | ⟨g, cap, cur, e, _⟩
    · exact ⟨rfl, _, _, e⟩
    · exact ⟨rfl, _, _, e⟩
  · right
    have hpos : 0 < ns.length := List.length_pos_iff.2 hz
    rcases h.2 with ⟨_, e⟩ | ⟨g, cap, cur, rfl, _, hg, _⟩
    · omega
    · refine ⟨hz, g, 0, cap, rfl, (Array.getElem?_eq_some_iff.1 hg).1, fun i n hi => ?_⟩
      have hil : i < vs.length := by rw [hk.len]; exact (List.getElem?_eq_some_iff.1 hi).1
      have hv : vs[i]? = some vs[i] := List.getElem?_eq_getElem hil
      have hc : ∀ j u, [Value.int .i64 n.kind, .string n.tag, .string n.text, vs[i]][j]? = some u → w.cell? ⟨g, 0 + i * 4 + j, none⟩ = some u := fun j u hu => by
        have h1 := h.cells (g := g) rfl (i * 4 + j) u (cellsN_at ns vs i n _ hi hv j u hu)
        have a1 : (⟨g, 0, none⟩ : Addr).add (i * 4 + j) = ⟨g, i * 4 + j, none⟩ := by unfold Addr.add; split <;> simp_all
        rw [a1] at h1
        rw [Nat.zero_add]
        exact h1
      exact ⟨vs[i], hc 0 _ rfl, hc 1 _ rfl, hc 2 _ rfl, hc 3 _ rfl, il_of_own (hk.own i _ n hv hi)⟩
theorem GOwn.at {lo : Nat} {w : World} {nv rv : Value} {g : Gr} {vs : List Value} (h : GOwn lo w nv rv g vs) : GrAt w nv rv g := ⟨nl_of_own h.nodes h.kids, il_of_own h.roots⟩
theorem GOwn.later {lo : Nat} {w w' : World} {nv rv : Value} {g : Gr} {vs : List Value} (h : GOwn lo w nv rv g vs) (hb : Below w.heap.size w w') : GOwn lo w' nv rv g vs :=
  ⟨g_row_below h.nodes hb, h.kids.later hb, g_row_below h.roots hb, h.apart⟩
theorem GOwn.lower {lo lo' : Nat} {w : World} {nv rv : Value} {g : Gr} {vs : List Value} (h : GOwn lo w nv rv g vs) (hl : lo' ≤ lo) : GOwn lo' w nv rv g vs :=
  ⟨g_row_lower h.nodes hl, ⟨h.kids.len, fun i v n hv hn => g_row_lower (h.kids.own i v n hv hn) hl, h.kids.apart⟩, g_row_lower h.roots hl, h.apart⟩
section
variable {w : World} {b : Nat} {x0 x1 : Value} {t : TypeId}
theorem n2_0 (h : w.heap[b]? = some (.cells #[x0, x1] t (0, 0))) : w.cell? ⟨b, 0, none⟩ = some x0 := by simp [World.cell?, h]
theorem n2_1 (h : w.heap[b]? = some (.cells #[x0, x1] t (0, 0))) : w.cell? ⟨b, 1, none⟩ = some x1 := by simp [World.cell?, h]
theorem n2_f (h : w.heap[b]? = some (.cells #[x0, x1] t (0, 0))) (i : Nat) : w.frozen? ⟨b, i, none⟩ = false := by simp [World.frozen?, h]
theorem n2_set0 (h : w.heap[b]? = some (.cells #[x0, x1] t (0, 0))) (a : Value) : (w.setCell ⟨b, 0, none⟩ a).heap[b]? = some (.cells #[a, x1] t (0, 0)) := by
  simp [World.setCell, Array.getElem?_modify, h]
theorem n2_set1 (h : w.heap[b]? = some (.cells #[x0, x1] t (0, 0))) (a : Value) : (w.setCell ⟨b, 1, none⟩ a).heap[b]? = some (.cells #[x0, a] t (0, 0)) := by
  simp [World.setCell, Array.getElem?_modify, h]
end
end Go.Proofs.Ytkdlakcmhdiojaa
/- A region that draws its order, whose operations read what was there and whose calls leave it as it was: one walk serves every order. -/
namespace Go.Proofs.Ytkdlakcmhdiojaa
open Go.RowKit
/-- A later world in which what was there is as it was. -/
structure Bw (w : World) where
  val : World
  ok : Below w.heap.size w val
theorem wp_region_bw {P : Program} {id : Nat} {Q : Exit → Act → World → Prop} {a : Act} {w0 w : World} {l : List Oper} (hm : P.follows .mixedOrders = true) (hB : Region.lexB .any l.toArray = true) (hC : Below w0.heap.size w0 w)
    (h : wpQuiet P l.toArray (fun w' => ∃ n : Bw w0, w' = n.val) (fun a' => ∀ w', (∃ n : Bw w0, w' = n.val) → Q .normal a' w') l a) : (Code.region id l.toArray true).wp P Q a w := by
  refine wp_region_quiet (C := fun w' => ∃ n : Bw w0, w' = n.val) hm hB ⟨⟨w.drew, hC.drew⟩, rfl⟩ ?_
  rw [List.toList_toArray]
  exact h
theorem Bw.calls {P : Program} {f : FuncId} {args : Array Value} {w : World} {v : Value} (h : ∀ w', Below w.heap.size w w' → Calls P f args w' fun e w'' => e = .returned v ∧ Below w'.heap.size w' w'') (m : Bw w) :
    Calls P f args m.val fun e w' => e = .returned v ∧ ∃ m' : Bw w, w' = m'.val := by
  refine (h m.val m.ok).mono ?_
  rintro e w' ⟨rfl, hb⟩
  exact ⟨rfl, ⟨w', m.ok.trans (hb.mono m.ok.size)⟩, rfl⟩
theorem Bw.some (w : World) : Nonempty (Bw w) := ⟨⟨w, Below.refl _ _⟩⟩
end Go.Proofs.Ytkdlakcmhdiojaa
