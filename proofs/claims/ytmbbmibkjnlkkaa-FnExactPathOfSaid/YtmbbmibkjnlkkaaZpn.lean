/- Several texts in one: Pnj Mpg Iti. -/
import Derived.Test.YtmbbmibkjnlkkaaZpi
import Derived.Maps.OwnSet
import Derived.Below
import Derived.Test.YtmbbmibkjnlkkaaZpm
import Derived.Laws.EntriesVeiled
/- Nodes within events: what the program ties of aliases is what the specification finds. -/
namespace Go.Proofs.Ytmbbmibkjnlkkaa
open Go.RowKit
/-- What is gathered: the root, the last node of each name, the node of each alias, how many have none. -/
structure Ti where
  root : Nat
  named : ByteArray → Option Sp
  defs : Int → Option Nat
  loose : Nat
def Ti.start : Ti := ⟨0, fun _ => none, fun _ => none, 0⟩
def Ti.at (t : Ti) (n : Sp) : Ti := if n.up = -1 then { t with root := n.at_ } else t
def Ti.miss (t : Ti) : Ti := { t with loose := t.loose + 1 }
def Ti.tie (t : Ti) (x : ByteArray) (a : Nat) : Ti := match t.named x with
  | none => t.miss
  | some n => if n.at_ < t.root ∨ ahead n a = false then t.miss else { t with defs := fun i => if (a : Int) = i then some n.at_ else t.defs i }
def Ti.name (t : Ti) (x : ByteArray) (n : Sp) : Ti := { t with named := fun y => if x = y then some n else t.named y }
def Ti.take (t : Ti) (n : Sp) (e : Ev) : Ti := if e.kind = 6 then (t.at n).tie e.text n.at_ else if noB e.anchor = true then t.at n else (t.at n).name e.anchor n
def fTie (l : List Ev) (t : Ti) (n : Sp) : Ti := match l[n.at_]? with
  | none => t
  | some e => t.take n e
/-- The last node of a name ahead of k. -/
def lastN (l : List Ev) (x : ByteArray) : Nat → Option Nat
  | 0 => none
  | k + 1 => match l[k]? with
    | none => lastN l x k
    | some e => if namE e x = true then some k else lastN l x k
/-- Behind the last beginning of a document ahead of k. -/
def docAft (l : List Ev) : Nat → Nat
  | 0 => 0
  | k + 1 => if kindAt l k = 2 then k + 1 else docAft l k
def rootTo (l : List Ev) : Nat → Nat
  | 0 => 0
  | k + 1 => if inAt l (-1) k = true then k else rootTo l k
theorem kind_at {l : List Ev} {k : Nat} {e : Ev} (h : l[k]? = some e) : kindAt l k = e.kind := by unfold kindAt; rw [h]
theorem docAft_le (l : List Ev) : ∀ k, docAft l k ≤ k
  | 0 => Nat.le_refl _
  | k + 1 => by
    have := docAft_le l k
    rw [docAft]
    split <;> omega
theorem lastN_lt (l : List Ev) (x : ByteArray) : ∀ (k m : Nat), lastN l x k = some m → m < k ∧ ∃ e, l[m]? = some e ∧ namE e x = true
  | 0, m, h => by simp [lastN] at h
  | k + 1, m, h => by
    rw [lastN] at h
    split at h
    · have := lastN_lt l x k m h
      exact ⟨by omega, this.2⟩
    · rename_i e he
      split at h
      · rename_i hn
        injection h with h
        subst h
        exact ⟨by omega, e, he, hn⟩
      · have := lastN_lt l x k m h
        exact ⟨by omega, this.2⟩
theorem nam_node {e : Ev} {x : ByteArray} (h : namE e x = true) : nodE e = true := by
  unfold namE at h
  simp at h
  exact h.1
theorem defG_last (l : List Ev) (i : Nat) (x : ByteArray) : ∀ k, k ≤ l.length → defG l i x k = match lastN l x k with
    | none => -1
    | some m => if m < docAft l k then -1 else if endN l m < 0 ∨ (i : Int) < endN l m then -1 else (m : Int)
  | 0, _ => by simp [defG, lastN]
  | k + 1, hk => by
    obtain ⟨e, he⟩ : ∃ e, l[k]? = some e := ⟨_, List.getElem?_eq_getElem (by omega)⟩
    have ih := defG_last l i x k (by omega)
    rw [defG, lastN, he, docAft, kind_at he]
    simp only []
    by_cases h2 : e.kind = 2
    · have hn : namE e x = false := by
        cases h' : namE e x
        · rfl
        · have := nam_node h'
          unfold nodE at this
          simp at this
          omega
      rw [if_pos h2, if_pos h2, hn]
      simp only [Bool.false_eq_true, if_false]
      cases hl : lastN l x k with
      | none => rfl
      | some m =>
        have := (lastN_lt l x k m hl).1
        simp only []
        rw [if_pos (by omega)]
    · rw [if_neg h2, if_neg h2]
      cases hn : namE e x
      · simp only [Bool.false_eq_true, if_false]
        exact ih
      · simp only [if_true]
        have := docAft_le l k
        rw [if_neg (show ¬ k < docAft l k by omega)]
theorem root_doc {l : List Ev} (h : nested l = true) : ∀ k, k ≤ l.length → (0 < k ∧ kindAt l (k - 1) = 2) ∨ rootTo l k = docAft l k ∨ k = l.length
  | 0, _ => .inr (.inl rfl)
  | k + 1, hk => by
    obtain ⟨e, he⟩ : ∃ e, l[k]? = some e := ⟨_, List.getElem?_eq_getElem (by omega)⟩
    have ih := root_doc h k (by omega)
    have hN := ns_at h he
    rw [Nat.add_sub_cancel, kind_at he]
    by_cases h2 : e.kind = 2
    · exact .inl ⟨by omega, h2⟩
    right
    rw [rootTo, docAft, kind_at he, if_neg h2]
    have hh : headI (stk l k) = -1 ↔ stk l k = [] := by
      cases stk l k with
      | nil => simp [headI]
      | cons a r => simp [headI]
    by_cases hd : 0 < k ∧ kindAt l (k - 1) = 2
    · rcases hN.doc hd.1 hd.2 with hn | hn
      · left
        have hr := (hN.root hn).2 hd
        have : inAt l (-1) k = true := by
          unfold inAt
          rw [nodB_some he, hn, up_head l k (by omega), hh.2 hr]
          rfl
        rw [if_pos this]
        obtain ⟨q, rfl⟩ : ∃ q, k = q + 1 := ⟨k - 1, by omega⟩
        rw [docAft, if_pos (show kindAt l q = 2 from hd.2)]
      · exact .inr hn
    · left
      have hi : inAt l (-1) k = false := by
        unfold inAt
        cases hn : nodE e
        · rw [nodB_some he, hn]; rfl
        · rw [up_head l k (by omega)]
          have : ¬ stk l k = [] := fun h' => hd ((hN.root hn).1 h')
          have : ¬ headI (stk l k) = -1 := fun h' => this (hh.1 h')
          simp [this]
      rw [if_neg (by simp [hi])]
      rcases ih with h1 | h1 | h1
      · exact absurd h1 hd
      · exact h1
      · omega
/-- At a node the root that is told is behind the last beginning of a document. -/
theorem root_node {l : List Ev} (h : nested l = true) {k : Nat} {e : Ev} (he : l[k]? = some e) (hn : nodE e = true) : rootTo l (k + 1) = docAft l k := by
  have hk : k < l.length := (List.getElem?_eq_some_iff.1 he).1
  have hN := ns_at h he
  have hh : headI (stk l k) = -1 ↔ stk l k = [] := by
    cases stk l k with
    | nil => simp [headI]
    | cons a r => simp [headI]
  rw [rootTo]
  by_cases hd : 0 < k ∧ kindAt l (k - 1) = 2
  · have hr := (hN.root hn).2 hd
    have : inAt l (-1) k = true := by
      unfold inAt
      rw [nodB_some he, hn, up_head l k (by omega), hh.2 hr]
      rfl
    rw [if_pos this]
    obtain ⟨q, rfl⟩ : ∃ q, k = q + 1 := ⟨k - 1, by omega⟩
    rw [docAft, if_pos (show kindAt l q = 2 from hd.2)]
  · have hi : inAt l (-1) k = false := by
      unfold inAt
      rw [up_head l k (by omega)]
      have : ¬ stk l k = [] := fun h' => hd ((hN.root hn).1 h')
      have : ¬ headI (stk l k) = -1 := fun h' => this (hh.1 h')
      simp [this]
    rw [if_neg (by simp [hi])]
    rcases root_doc h k (by omega) with h1 | h1 | h1
    · exact absurd h1 hd
    · exact h1
    · omega
theorem alias_bare {e : Ev} (h : evOk e = true) (h6 : e.kind = 6) : noB e.anchor = true := by
  unfold evOk at h
  split at h
  · cases h
  · split at h
    · cases h
    · rename_i hb
      unfold evBad nodeK at hb
      rw [h6] at hb
      simp at hb
      exact hb.2.1
theorem defN_m1 (l : List Ev) (i : Nat) : defN l i = -1 ∨ 0 ≤ defN l i := by
  unfold defN
  split
  · exact .inl rfl
  · rename_i e _
    have : ∀ k, defG l i e.text k = -1 ∨ 0 ≤ defG l i e.text k := by
      intro k
      induction k with
      | zero => exact .inl rfl
      | succ k ih =>
        rw [defG]
        split
        · exact .inl rfl
        · split
          · exact .inl rfl
          · split
            · split
              · exact .inl rfl
              · right; omega
            · exact ih
    exact this i
structure TiAt (l : List Ev) (k : Nat) (t : Ti) : Prop where
  root : t.root = rootTo l k
  named : ∀ x, t.named x = (lastN l x k).map (fin l)
  defs : ∀ i, t.defs i = if 0 ≤ i ∧ i < (k : Int) ∧ kindAt l i.toNat = 6 ∧ 0 ≤ defN l i.toNat then some (defN l i.toNat).toNat else none
  loose : t.loose ≤ k
  tied : t.loose = 0 ↔ tiedTo l k = true
theorem tiedTo_succJ (l : List Ev) (k : Nat) : tiedTo l (k + 1) = (tiedTo l k && tiedAt l k) := by
  unfold tiedTo
  rw [List.range_succ, List.all_append]
  simp
theorem defs_same {l : List Ev} {k : Nat} (hk : ¬ (kindAt l k = 6 ∧ 0 ≤ defN l k)) (i : Int) :
    (if 0 ≤ i ∧ i < ((k + 1 : Nat) : Int) ∧ kindAt l i.toNat = 6 ∧ 0 ≤ defN l i.toNat then some (defN l i.toNat).toNat else none) = (if 0 ≤ i ∧ i < (k : Int) ∧ kindAt l i.toNat = 6 ∧ 0 ≤ defN l i.toNat then some (defN l i.toNat).toNat else none) := by
  by_cases h : 0 ≤ i ∧ i < (k : Int) ∧ kindAt l i.toNat = 6 ∧ 0 ≤ defN l i.toNat
  · rw [if_pos h, if_pos ⟨h.1, by omega, h.2.2⟩]
  · rw [if_neg h, if_neg]
    rintro ⟨h1, h2, h3⟩
    by_cases e : i = (k : Int)
    · subst e
      rw [show (k : Int).toNat = k by omega] at h3
      exact hk h3
    · exact h ⟨h1, by omega, h3⟩
theorem ti_gat {l : List Ev} (h : nested l = true) : ∀ k, k ≤ l.length → TiAt l k (gat l (fTie l) Ti.start k)
  | 0, _ => ⟨rfl, fun _ => rfl, fun i => by rw [if_neg (by omega)]; rfl, Nat.le_refl _, by simp [tiedTo, gat_zero, Ti.start]⟩
  | k + 1, hk => by
    obtain ⟨e, he⟩ : ∃ e, l[k]? = some e := ⟨_, List.getElem?_eq_getElem (by omega)⟩
    have ih := ti_gat h k (by omega)
    have hN := ns_at h he
    have hkd := kind_at he
    cases hn : nodE e
    · have hnb : nodB l k = false := by rw [nodB_some he]; exact hn
      have hk6 : kindAt l k ≠ 6 := by
        rw [hkd]
        unfold nodE at hn
        simp at hn
        omega
      rw [gat_no hnb]
      refine ⟨?_, fun x => ?_, fun i => ?_, by have := ih.loose; omega, ?_⟩
      · rw [ih.root, rootTo, if_neg (by simp [inAt, hnb])]
      · rw [ih.named, lastN, he]
        simp only []
        rw [if_neg (fun h' => by rw [nam_node h'] at hn; cases hn)]
      · rw [ih.defs, defs_same (fun h' => hk6 h'.1)]
      · rw [ih.tied, tiedTo_succJ]
        simp [tiedAt, hk6]
    · have hnb : nodB l k = true := by rw [nodB_some he]; exact hn
      rw [gat_yes hnb]
      obtain ⟨t, ht⟩ : ∃ t, gat l (fTie l) Ti.start k = t := ⟨_, rfl⟩
      rw [ht] at ih ⊢
      have hF : fTie l t (fin l k) = t.take (fin l k) e := by
        unfold fTie
        show (match l[k]? with | none => t | some e => t.take (fin l k) e) = _
        rw [he]
      rw [hF]
      have hat : (t.at (fin l k)).root = rootTo l (k + 1) ∧ (t.at (fin l k)).named = t.named ∧ (t.at (fin l k)).defs = t.defs ∧ (t.at (fin l k)).loose = t.loose := by
        unfold Ti.at
        rw [rootTo]
        unfold inAt
        rw [hnb]
        show (if upG l k 0 = -1 then ({ t with root := k } : Ti) else t).root = _ ∧ _
        by_cases hu : upG l k 0 = -1
        · have hu' : (fin l k).up = -1 := hu
          rw [if_pos hu, if_pos hu']
          simp [hu]
        · have hu' : ¬ (fin l k).up = -1 := hu
          rw [if_neg hu, if_neg hu']
          simp [hu, ih.root]
      obtain ⟨t1, ht1⟩ : ∃ t1, t.at (fin l k) = t1 := ⟨_, rfl⟩
      unfold Ti.take
      rw [ht1] at hat ⊢
      obtain ⟨a1, a2, a3, a4⟩ := hat
      have hlast : ∀ x, namE e x = false → (lastN l x (k + 1)).map (fin l) = t.named x := by
        intro x hx
        rw [ih.named, lastN, he]
        simp [hx]
      by_cases h6 : e.kind = 6
      · rw [if_pos h6]
        have hbare := alias_bare hN.ok h6
        have hnam : ∀ x, namE e x = false := fun x => by unfold namE; simp [hbare]
        have hdef : defN l k = defG l k e.text k := by unfold defN; rw [he]
        have hk6 : kindAt l k = 6 := by rw [hkd]; exact h6
        have hroot := root_node h he hn
        have hmiss : defN l k < 0 → TiAt l (k + 1) t1.miss := by
          intro hneg
          refine ⟨a1, fun x => ?_, fun i => ?_, ?_, ?_⟩
          · rw [hlast x (hnam x)]; exact congrFun a2 x
          · rw [defs_same (fun h' => by omega), ← ih.defs]; exact congrFun a3 i
          · show t1.loose + 1 ≤ k + 1
            rw [a4]
            have := ih.loose
            omega
          · show t1.loose + 1 = 0 ↔ _
            rw [tiedTo_succJ]
            simp [tiedAt, hk6]
            intro _
            exact hneg
        unfold Ti.tie
        rw [congrFun a2 e.text, ih.named]
        have hdl := defG_last l k e.text k (by omega)
        rw [← hdef] at hdl
        cases hl : lastN l e.text k with
        | none =>
          rw [hl] at hdl
          simp only [] at hdl
          exact hmiss (by omega)
        | some m =>
          rw [hl] at hdl
          simp only [] at hdl
          show TiAt l (k + 1) (if m < t1.root ∨ ahead (fin l m) k = false then t1.miss else _)
          rw [a1, hroot]
          obtain ⟨hmk, em, hem, hnm⟩ := lastN_lt l e.text k m hl
          have hE : endN l m ≠ (k : Int) := fun h' => by
            have := (endN_hit hem (nam_node hnm) hmk he h').1
            omega
          have hah : ahead (fin l m) k = false ↔ (endN l m < 0 ∨ (k : Int) < endN l m) := by
            rw [ahead_open hem (nam_node hnm) hmk (by omega), open_iff hem (nam_node hnm) hmk (by omega)]
            omega
          by_cases hlo : m < docAft l k
          · rw [if_pos (.inl hlo)]
            rw [if_pos hlo] at hdl
            exact hmiss (by omega)
          · rw [if_neg hlo] at hdl
            by_cases hop : endN l m < 0 ∨ (k : Int) < endN l m
            · rw [if_pos (.inr (hah.2 hop))]
              rw [if_pos hop] at hdl
              exact hmiss (by omega)
            · rw [if_neg (fun h' => h'.elim hlo (fun h'' => hop (hah.1 h'')))]
              rw [if_neg hop] at hdl
              refine ⟨hroot.symm, fun x => ?_, fun i => ?_, ?_, ?_⟩
              · rw [hlast x (hnam x)]; exact congrFun a2 x
              · show (if (k : Int) = i then some m else t1.defs i) = _
                by_cases ei : (k : Int) = i
                · subst ei
                  rw [if_pos rfl, show (k : Int).toNat = k by omega, if_pos ⟨by omega, by omega, hk6, by omega⟩, hdl]
                  rfl
                · rw [if_neg ei, congrFun a3 i, ih.defs]
                  by_cases hc : 0 ≤ i ∧ i < (k : Int) ∧ kindAt l i.toNat = 6 ∧ 0 ≤ defN l i.toNat
                  · rw [if_pos hc, if_pos ⟨hc.1, by omega, hc.2.2⟩]
                  · rw [if_neg hc, if_neg (fun h' => hc ⟨h'.1, by omega, h'.2.2⟩)]
              · show t1.loose ≤ k + 1
                rw [a4]
                have := ih.loose
                omega
              · show t1.loose = 0 ↔ _
                rw [a4, ih.tied, tiedTo_succJ]
                have : tiedAt l k = true := by
                  unfold tiedAt
                  rw [hdl]
                  simp
                simp [this]
      · rw [if_neg h6]
        have hk6 : kindAt l k ≠ 6 := by rw [hkd]; exact h6
        have hd : ∀ i, t1.defs i = if 0 ≤ i ∧ i < ((k + 1 : Nat) : Int) ∧ kindAt l i.toNat = 6 ∧ 0 ≤ defN l i.toNat then some (defN l i.toNat).toNat else none := fun i => by
          rw [defs_same (fun h' => hk6 h'.1), ← ih.defs]; exact congrFun a3 i
        have ht2 : t1.loose = 0 ↔ tiedTo l (k + 1) = true := by
          rw [a4, ih.tied, tiedTo_succJ]
          simp [tiedAt, hk6]
        have hlo : t1.loose ≤ k + 1 := by
          rw [a4]
          have := ih.loose
          omega
        cases hb : noB e.anchor
        · simp only [Bool.false_eq_true, if_false]
          refine ⟨a1, fun x => ?_, hd, hlo, ht2⟩
          show (if e.anchor = x then some (fin l k) else t1.named x) = _
          by_cases ex : e.anchor = x
          · subst ex
            rw [if_pos rfl, lastN, he]
            have : namE e e.anchor = true := by unfold namE; simp [hn, hb]
            simp [this]
          · rw [if_neg ex, hlast x (by unfold namE; simp [ex])]
            exact congrFun a2 x
        · simp only [if_true]
          refine ⟨a1, fun x => ?_, hd, hlo, ht2⟩
          rw [hlast x (by unfold namE; simp [hb])]
          exact congrFun a2 x
theorem def_gat {l : List Ev} (h : nested l = true) (i : Int) : (match (gat l (fTie l) Ti.start l.length).defs i with | none => (-1 : Int) | some d => (d : Int)) = defOf l i := by
  have hT := ti_gat h l.length (Nat.le_refl _)
  rw [hT.defs]
  unfold defOf
  by_cases hc : 0 ≤ i ∧ i < (l.length : Int) ∧ kindAt l i.toNat = 6
  · have hno : ¬ (nested l = false ∨ i < 0 ∨ (l.length : Int) ≤ i ∨ kindAt l i.toNat ≠ 6) := by rw [h]; simp; omega
    rw [if_neg hno]
    by_cases h0 : 0 ≤ defN l i.toNat
    · rw [if_pos ⟨hc.1, hc.2.1, hc.2.2, h0⟩]
      simp only []
      omega
    · rw [if_neg (fun h' => h0 h'.2.2.2)]
      have := defN_m1 l i.toNat
      simp only []
      omega
  · have hyes : nested l = false ∨ i < 0 ∨ (l.length : Int) ≤ i ∨ kindAt l i.toNat ≠ 6 := by
      right
      by_cases h6 : kindAt l i.toNat = 6
      · have : ¬ (0 ≤ i ∧ i < (l.length : Int)) := fun h' => hc ⟨h'.1, h'.2, h6⟩
        omega
      · exact .inr (.inr h6)
    rw [if_pos hyes, if_neg (fun h' => hc ⟨h'.1, h'.2.1, h'.2.2.1⟩)]
theorem tied_gat {l : List Ev} (h : nested l = true) : decide ((gat l (fTie l) Ti.start l.length).loose = 0) = tied l := by
  have hT := ti_gat h l.length (Nat.le_refl _)
  unfold tied
  rw [h, Bool.true_and]
  by_cases h0 : (gat l (fTie l) Ti.start l.length).loose = 0
  · rw [decide_eq_true h0, hT.tied.1 h0]
  · rw [decide_eq_false h0]
    cases ht : tiedTo l l.length
    · rfl
    · exact absurd (hT.tied.2 ht) h0
end Go.Proofs.Ytmbbmibkjnlkkaa
/- A map in memory, as a plain function of its keys. -/
namespace Go.Proofs.Ytmbbmibkjnlkkaa
open Go.Maps Go.RowKit
def RH (v : Value) : Option (DataW Value × List MemPlace) := some (.held v, [])
def putFn {K V : Type} [DecidableEq K] (f : K → Option V) (x : K) (p : V) : K → Option V := fun y => if x = y then some p else f y
structure MapFn {K V : Type} (kf : K → Lit) (vf : V → Value) (D : DataW Value) (f : K → Option V) : Prop where
  isMap : IsMap D
  has : ∀ x, Maps.has D (kf x) = (f x).isSome
  at_ : ∀ x p, f x = some p → ∀ z, D.atKey (kf x) z = .held (vf p)
/-- Keys that differ are told apart. -/
structure KeyFn {K : Type} (kf : K → Lit) : Prop where
  inj : ∀ a b, a ≠ b → kf a ≠ kf b
  lit : ∀ a, WideAt.IsKeyLit (kf a)
section
variable {K V : Type} {kf : K → Lit} {vf : V → Value} {D : DataW Value} {f : K → Option V} {P : Program} {kt t e : TypeId} {w w' : World} {B n : Nat}
theorem MapFn.start : MapFn kf vf (.map []) (fun _ => none) := ⟨⟨_, rfl⟩, fun x => by simp [Maps.has], fun x p h => by simp at h⟩
theorem MapFn.put [DecidableEq K] (h : MapFn kf vf D f) (hk : KeyFn kf) (x : K) (p : V) : MapFn kf vf (D.put (kf x) (.held (vf p))) (putFn f x p) := by
  refine ⟨h.isMap.put _ _, fun y => ?_, fun y q hq z => ?_⟩
  · unfold putFn
    by_cases e : x = y
    · subst e
      rw [has_put_same h.isMap (hk.lit _)]; simp
    · rw [has_put_other (hk.inj _ _ (Ne.symm e)), h.has y]; simp [e]
  · unfold putFn at hq
    by_cases e : x = y
    · subst e
      simp at hq
      subst hq
      exact atKey_put_same h.isMap (hk.lit _) _ _
    · simp [e] at hq
      rw [atKey_put_other (hk.inj _ _ (Ne.symm e))]
      exact h.at_ y q hq z
def MapM (P : Program) (kt : TypeId) (kf : K → Lit) (vf : V → Value) (w : World) (B n : Nat) (f : K → Option V) : Prop := ∃ D, w.ownsMap P kt RH B n D ∧ MapFn kf vf D f
theorem MapM.lt (h : MapM P kt kf vf w B n f) : B < w.heap.size := h.elim fun _ h => h.1.lt
theorem MapM.same (h : MapM P kt kf vf w B n f) (hb : w'.heap[B]? = w.heap[B]?) : MapM P kt kf vf w' B n f := by
  obtain ⟨D, h1, h2⟩ := h
  obtain ⟨es, clock, he, F, hs, hD⟩ := h1
  exact ⟨D, ⟨es, clock, hb.trans he, F, hs, hD⟩, h2⟩
theorem MapM.isMap (h : MapM P kt kf vf w B n f) : ∃ es clock, w.heap[B]? = some (.map es clock) := by
  obtain ⟨D, ⟨es, clock, he, _⟩, _⟩ := h
  exact ⟨es, clock, he⟩
theorem MapM.made (w : World) (P : Program) (kt : TypeId) (kf : K → Lit) (vf : V → Value) : MapM P kt kf vf (w.alloc (.map #[] 0)) w.heap.size 0 (fun _ => none) := ⟨_, World.ownsMap_made w _ _ _, MapFn.start⟩
theorem MapM.put [DecidableEq K] (h : MapM P kt kf vf w B n f) (hk : KeyFn kf) (K1 : Keyed P kt) (ht : P.underlying t = some (.map kt e)) (x : K) (p : V) {key : Value} (hx : keyOf P kt key = some (kf x)) (hn : n < maxLen) :
    ∃ w', (Instr.mapUpdate t (.map (some B)) key (vf p)).run P w = .ok () w' ∧ MapM P kt kf vf w' B (n + 1) (putFn f x p) ∧ w.grownBy w' (some B) := by
  obtain ⟨D, h1, h2⟩ := h
  obtain ⟨w', hup, hown, hg⟩ := h1.update K1 ht hn (key := key) (val := vf p) hx rfl
  exact ⟨w', hup, ⟨_, hown, h2.put hk x p⟩, hg⟩
theorem MapM.look_yes (h : MapM P kt kf vf w B n f) (K1 : Keyed P kt) (ht : P.underlying t = some (.map kt e)) {z : Value} (hz : (zeroValue e).run P w = .ok z w) {x : K} {p : V} {key : Value} (hx : keyOf P kt key = some (kf x)) (hf : f x = some p) :
    (Instr.lookup t (.map (some B)) key true).run P w = .ok (.tuple #[vf p, .bool true]) w := by
  obtain ⟨D, h1, h2⟩ := h
  obtain ⟨v, ps, hrun, hv⟩ := h1.look_ok K1 ht hz (zd := .held z) (zp := []) rfl hx
  rw [h2.has x, hf] at hrun
  rw [h2.at_ x p hf] at hv
  simp only [RH, Option.some.injEq, Prod.mk.injEq, DataW.held.injEq] at hv
  rw [hv.1] at hrun
  exact hrun
theorem MapM.look_no (h : MapM P kt kf vf w B n f) (K1 : Keyed P kt) (ht : P.underlying t = some (.map kt e)) {z : Value} (hz : (zeroValue e).run P w = .ok z w) {x : K} {key : Value} (hx : keyOf P kt key = some (kf x)) (hf : f x = none) :
    (Instr.lookup t (.map (some B)) key true).run P w = .ok (.tuple #[z, .bool false]) w := by
  obtain ⟨D, h1, h2⟩ := h
  obtain ⟨es, clock, hb, F, hs, hD⟩ := h1
  have hh := h2.has x
  rw [hf] at hh
  rcases Maps.fit_look true K1 ht hz hb F hx with ⟨hrun, _, hat⟩ | ⟨e0, y, _, _, hrun, hRv, hat, _⟩
  · exact hrun
  · have := Maps.has_true_of_atKey hat
    rw [← hD, hh] at this
    cases this
end
end Go.Proofs.Ytmbbmibkjnlkkaa
/- impl's ties in memory; the contracts of tie and take. -/
namespace Go.Proofs.Ytmbbmibkjnlkkaa
open Go.ChangeShapes Go.WideShapes Go.ChangeAt Go.RowKit Go.Maps
def nkey (x : ByteArray) : Lit := .string x.data.toList
theorem nkey_fn : KeyFn nkey := by
  refine ⟨fun a b h e => ?_, fun _ => trivial⟩
  unfold nkey at e
  injection e with e
  exact h (ba_ext e)
def dkey (x : Int) : Lit := .int .i64 x
theorem dkey_fn : KeyFn dkey := by
  refine ⟨fun a b h e => ?_, fun _ => trivial⟩
  unfold dkey at e
  injection e with _ e
  exact h e
def natV (n : Nat) : Value := .int .i64 (n : Int)
theorem nkeyed : Keyed Try.prog 9 := string_keyed Try.underlying9
theorem dkeyed : Keyed Try.prog 3 := int_keyed Try.underlying3
theorem nkey_mk {x : ByteArray} (h : x.size ≤ 1073741824) : keyOf Try.prog 9 (.string x) = some (nkey x) := WideMaps.keyOf_string_mk Try.underlying9 (by unfold maxLen; omega)
theorem dkey_mk {x : Int} (h : (Lit.int .i64 x).wf = true) : keyOf Try.prog 3 (.int .i64 x) = some (dkey x) := keyOf_int_mk Try.underlying3 h
theorem zeroSp (w : World) : (zeroValue 64).run Try.prog w = .ok (.agg #[.int .i64 0, .int .i64 0, .int .i64 0]) w := Try.zeroValue64 w
theorem zeroNum (w : World) : (zeroValue 3).run Try.prog w = .ok (.int .i64 0) w := Try.zeroValue3 w
/-- The ties at block b. -/
def TsAt (b : Nat) (lv : Value) (root : Nat) (B1 B2 : Nat) (loose : Nat) (w : World) : Prop :=
  w.heap[b]? = some (.cells #[lv, .int .i64 (root : Int), .map (some B1), .map (some B2), .int .i64 (loose : Int)] 61 (0, 0))
section
variable {b : Nat} {lv : Value} {root B1 B2 loose : Nat} {w w' : World}
theorem TsAt.lt (h : TsAt b lv root B1 B2 loose w) : b < w.heap.size := (Array.getElem?_eq_some_iff.1 h).1
theorem TsAt.c0 (h : TsAt b lv root B1 B2 loose w) : w.cell? ⟨b, 0, none⟩ = some lv := by rw [Lib.cell_of_heap h]; rfl
theorem TsAt.c1 (h : TsAt b lv root B1 B2 loose w) : w.cell? ⟨b, 1, none⟩ = some (.int .i64 (root : Int)) := by rw [Lib.cell_of_heap h]; rfl
theorem TsAt.c2 (h : TsAt b lv root B1 B2 loose w) : w.cell? ⟨b, 2, none⟩ = some (.map (some B1)) := by rw [Lib.cell_of_heap h]; rfl
theorem TsAt.c3 (h : TsAt b lv root B1 B2 loose w) : w.cell? ⟨b, 3, none⟩ = some (.map (some B2)) := by rw [Lib.cell_of_heap h]; rfl
theorem TsAt.c4 (h : TsAt b lv root B1 B2 loose w) : w.cell? ⟨b, 4, none⟩ = some (.int .i64 (loose : Int)) := by rw [Lib.cell_of_heap h]; rfl
theorem TsAt.fz (h : TsAt b lv root B1 B2 loose w) (j : Nat) : w.frozen? ⟨b, j, none⟩ = false := Lib.frozen_of_heap h j
theorem TsAt.same (h : TsAt b lv root B1 B2 loose w) (hb : w'.heap[b]? = w.heap[b]?) : TsAt b lv root B1 B2 loose w' := hb.trans h
theorem TsAt.set1 (h : TsAt b lv root B1 B2 loose w) (x : Nat) : TsAt b lv x B1 B2 loose (w.setCell ⟨b, 1, none⟩ (.int .i64 (x : Int))) := by
  unfold TsAt at *
  simp [World.setCell, Array.getElem?_modify, h]
theorem TsAt.set4 (h : TsAt b lv root B1 B2 loose w) (x : Nat) : TsAt b lv root B1 B2 x (w.setCell ⟨b, 4, none⟩ (.int .i64 (x : Int))) := by
  unfold TsAt at *
  simp [World.setCell, Array.getElem?_modify, h]
end
/-- What lies beside the ties' own blocks lies as it lay. -/
def KeepO (b B1 B2 : Nat) (w w' : World) : Prop := w.heap.size ≤ w'.heap.size ∧ ∀ x, x < w.heap.size → x ≠ b → x ≠ B1 → x ≠ B2 → w'.heap[x]? = w.heap[x]?
/-- What is tied of k nodes, and that all that lay is as it lay. -/
structure TsI (b B1 B2 : Nat) (lv : Value) (w0 : World) (t : Ti) (k : Nat) (w : World) : Prop where
  at_ : TsAt b lv t.root B1 B2 t.loose w
  nm : ∃ n, n ≤ k ∧ MapM Try.prog 9 nkey Sp.val w B1 n t.named
  df : ∃ n, n ≤ k ∧ MapM Try.prog 3 dkey natV w B2 n t.defs
  ls : t.loose ≤ k
  below : Below w0.heap.size w0 w
  hi : w0.heap.size ≤ b ∧ w0.heap.size ≤ B1 ∧ w0.heap.size ≤ B2
  ne : b ≠ B1 ∧ b ≠ B2 ∧ B1 ≠ B2
section
variable {b B1 B2 : Nat} {lv : Value} {w0 w w' : World} {t : Ti} {k : Nat}
theorem TsI.stays (h : TsI b B1 B2 lv w0 t k w) (hb : Below w.heap.size w w') : TsI b B1 B2 lv w0 t k w' := by
  obtain ⟨n1, h1, h2⟩ := h.nm
  obtain ⟨n2, h3, h4⟩ := h.df
  exact ⟨h.at_.same (hb.block b h.at_.lt), ⟨n1, h1, h2.same (hb.block _ h2.lt)⟩, ⟨n2, h3, h4.same (hb.block _ h4.lt)⟩, h.ls, h.below.trans (hb.mono h.below.size), h.hi, h.ne⟩
theorem TsI.more (h : TsI b B1 B2 lv w0 t k w) : TsI b B1 B2 lv w0 t (k + 1) w := by
  obtain ⟨n1, h1, h2⟩ := h.nm
  obtain ⟨n2, h3, h4⟩ := h.df
  exact ⟨h.at_, ⟨n1, by omega, h2⟩, ⟨n2, by omega, h4⟩, by have := h.ls; omega, h.below, h.hi, h.ne⟩
/-- A cell of the ties' own block is stored. -/
theorem TsI.cell (h : TsI b B1 B2 lv w0 t k w) {j : Nat} {x : Value} {t' : Ti} (ha : TsAt b lv t'.root B1 B2 t'.loose (w.setCell ⟨b, j, none⟩ x)) (hn : t'.named = t.named) (hd : t'.defs = t.defs) {k' : Nat} (hk : k ≤ k') (hl : t'.loose ≤ k') : TsI b B1 B2 lv w0 t' k' (w.setCell ⟨b, j, none⟩ x) := by
  obtain ⟨n1, h1, h2⟩ := h.nm
  obtain ⟨n2, h3, h4⟩ := h.df
  rw [← hn] at h2
  rw [← hd] at h4
  exact ⟨ha, ⟨n1, by omega, h2.same (Below.heap_setCell _ _ _ _ (Ne.symm h.ne.1))⟩, ⟨n2, by omega, h4.same (Below.heap_setCell _ _ _ _ (Ne.symm h.ne.2.1))⟩, hl, h.below.setCell h.hi.1 x, h.hi, h.ne⟩
theorem KeepO.of (h : Below w.heap.size w w') : KeepO b B1 B2 w w' := ⟨h.size, fun x hx _ _ _ => h.block x hx⟩
theorem KeepO.trans {a c d : World} (h : KeepO b B1 B2 a c) (k : KeepO b B1 B2 c d) : KeepO b B1 B2 a d := ⟨Nat.le_trans h.1 k.1, fun x hx h1 h2 h3 => (k.2 x (Nat.lt_of_lt_of_le hx h.1) h1 h2 h3).trans (h.2 x hx h1 h2 h3)⟩
theorem TsI.keep (_ : TsI b B1 B2 lv w0 t k w) (j : Nat) (x : Value) : KeepO b B1 B2 w (w.setCell ⟨b, j, none⟩ x) := ⟨by simp [World.setCell], fun _ _ h1 _ _ => Below.heap_setCell _ _ _ _ h1⟩
theorem keep_map1 (hg : w.grownBy w' (some B1)) : KeepO b B1 B2 w w' := ⟨hg.size, fun x hx _ h2 _ => hg.block x hx (fun e => h2 (Option.some.inj e))⟩
theorem keep_map2 (hg : w.grownBy w' (some B2)) : KeepO b B1 B2 w w' := ⟨hg.size, fun x hx _ _ h3 => hg.block x hx (fun e => h3 (Option.some.inj e))⟩
theorem KeepO.toS (h : KeepO b B1 B2 w w') (hI : TsI b B1 B2 lv w0 t k w) : KeepS w w' := fun x cs fr hx => by
  obtain ⟨_, _, h2⟩ := hI.nm
  obtain ⟨_, _, h4⟩ := hI.df
  obtain ⟨_, _, e2⟩ := h2.isMap
  obtain ⟨_, _, e4⟩ := h4.isMap
  have h0 := hI.at_
  unfold TsAt at h0
  rw [h.2 x (Array.getElem?_eq_some_iff.1 hx).1 (fun e => ?_) (fun e => ?_) (fun e => ?_), hx]
  · subst e
    rw [hx] at h0
    injection h0 with h0
    injection h0 with _ h0
    exact absurd h0 (by decide)
  · subst e
    rw [hx] at e2
    cases e2
  · subst e
    rw [hx] at e4
    cases e4
theorem below_map {B : Nat} (h : Below w0.heap.size w0 w) (hg : w.grownBy w' (some B)) (hB : w0.heap.size ≤ B) : Below w0.heap.size w0 w' :=
  h.trans ⟨hg.os, hg.tape, hg.output, hg.size, fun j hj => hg.block j (by have := h.size; omega) (by simp; omega)⟩
theorem TsI.putN (h : TsI b B1 B2 lv w0 t k w) (x : ByteArray) (n : Sp) (hx : x.size ≤ 1073741824) (hk : k ≤ 2000000) :
    ∃ w', (Instr.mapUpdate 59 (.map (some B1)) (.string x) n.val).run Try.prog w = .ok () w' ∧ TsI b B1 B2 lv w0 (t.name x n) (k + 1) w' ∧ KeepO b B1 B2 w w' := by
  obtain ⟨n1, h1, h2⟩ := h.nm
  obtain ⟨n2, h3, h4⟩ := h.df
  obtain ⟨w', hup, hM, hg⟩ := h2.put nkey_fn nkeyed Try.underlying59 x n (nkey_mk hx) (by unfold maxLen; omega)
  refine ⟨w', hup, ⟨h.at_.same (hg.block b h.at_.lt (by simp; exact h.ne.1)), ⟨n1 + 1, by omega, hM⟩, ⟨n2, by omega, h4.same (hg.block B2 h4.lt (by simp; exact Ne.symm h.ne.2.2))⟩, by have := h.ls; show t.loose ≤ k + 1; omega, below_map h.below hg h.hi.2.1, h.hi, h.ne⟩, keep_map1 hg⟩
theorem TsI.putD (h : TsI b B1 B2 lv w0 t k w) (a n : Nat) (ha : a ≤ 2000000) (hk : k ≤ 2000000) :
    ∃ w', (Instr.mapUpdate 41 (.map (some B2)) (.int .i64 (a : Int)) (.int .i64 (n : Int))).run Try.prog w = .ok () w' ∧ TsI b B1 B2 lv w0 { t with defs := putFn t.defs (a : Int) n } (k + 1) w' ∧ KeepO b B1 B2 w w' := by
  obtain ⟨n1, h1, h2⟩ := h.nm
  obtain ⟨n2, h3, h4⟩ := h.df
  obtain ⟨w', hup, hM, hg⟩ := h4.put dkey_fn dkeyed Try.underlying41 (a : Int) n (dkey_mk (WalkArith.wf_i64 (by omega))) (by unfold maxLen; omega)
  refine ⟨w', hup, ⟨h.at_.same (hg.block b h.at_.lt (by simp; exact h.ne.2.1)), ⟨n1, by omega, h2.same (hg.block B1 h2.lt (by simp; exact h.ne.2.2))⟩, ⟨n2 + 1, by omega, hM⟩, by have := h.ls; show t.loose ≤ k + 1; omega, below_map h.below hg h.hi.2.2, h.hi, h.ne⟩, keep_map2 hg⟩
end
end Go.Proofs.Ytmbbmibkjnlkkaa
