/- Plain facts of a source in pages: what reading one place does, what a run is, when a source is right; and what a map of pages holds. -/
import Derived.Maps.OwnSet
import Derived.Maps.AppendAt
import Derived.Below
namespace Go.Proofs.Ytopmboioojedbac
open Go.Maps Go.RowKit

abbrev Pg := Int × List Int
def part (zs : List Int) (a n : Nat) : List Int := (zs.drop a).take n
def byteAt (d : List Int) (i : Nat) : Int := if i < d.length then d.getD i 0 else -1
def okz (zs : List Int) : Prop := ∀ z ∈ zs, 0 ≤ z ∧ z < 256
def okd (qs : List Pg) : Prop := ∀ q ∈ qs, okz q.2
def okS (size : Int) (qs : List Pg) (f : Int) : Bool :=
  decide (1 ≤ size) && decide (size ≤ 60000) && decide (qs.length ≤ 6) && decide (0 ≤ f) && decide (f ≤ 4294967295)
    && qs.all (fun q => decide (0 ≤ q.1) && decide ((q.2.length : Int) ≤ size)) && decide ((qs.map (·.1)).Nodup)
structure OkS (size : Int) (qs : List Pg) (f : Int) : Prop where
  s1 : 1 ≤ size
  s2 : size ≤ 60000
  len : qs.length ≤ 6
  f0 : 0 ≤ f
  f1 : f ≤ 4294967295
  each : ∀ q ∈ qs, 0 ≤ q.1 ∧ (q.2.length : Int) ≤ size
  nd : (qs.map (·.1)).Nodup
theorem okS_iff {size : Int} {qs : List Pg} {f : Int} : okS size qs f = true ↔ OkS size qs f := by
  unfold okS
  simp only [Bool.and_eq_true, decide_eq_true_eq, List.all_eq_true]
  constructor
  · rintro ⟨⟨⟨⟨⟨⟨a, b⟩, c⟩, d⟩, e⟩, g⟩, h⟩
    exact ⟨a, b, c, d, e, g, h⟩
  · rintro ⟨a, b, c, d, e, g, h⟩
    exact ⟨⟨⟨⟨⟨⟨a, b⟩, c⟩, d⟩, e⟩, g⟩, h⟩
def hit (num : Int) (q : Pg) : Bool := decide (q.1 = num)
def shift (qs : List Pg) : List Pg := if qs.length = 6 then qs.tail else qs
/-- The place at, read: how many were fetched, the pages behind it, and the byte or -1. -/
def readM (size f : Int) (qs : List Pg) (zs : List Int) (at_ : Int) : (Int × List Pg) × Int :=
  match qs.find? (hit (at_ / size)) with
  | some q => ((f, qs.filter (fun p => !hit (at_ / size) p) ++ [q]), byteAt q.2 (at_ % size).toNat)
  | none => ((min (f + 1) 4294967295, shift qs ++ [(at_ / size, part zs (at_ / size * size).toNat size.toNat)]),
      byteAt (part zs (at_ / size * size).toNat size.toNat) (at_ % size).toNat)
def runM (size : Int) (zs : List Int) : Nat → Int → Int → List Pg → (Int × List Pg) × List Int
  | 0, _, f, qs => ((f, qs), [])
  | n + 1, at_, f, qs =>
    if (readM size f qs zs at_).2 < 0 then ((readM size f qs zs at_).1, [])
    else ((runM size zs n (at_ + 1) (readM size f qs zs at_).1.1 (readM size f qs zs at_).1.2).1,
      (readM size f qs zs at_).2 :: (runM size zs n (at_ + 1) (readM size f qs zs at_).1.1 (readM size f qs zs at_).1.2).2)

theorem part_len (zs : List Int) (a n : Nat) : (part zs a n).length ≤ n := by unfold part; rw [List.length_take]; omega
theorem part_mem {zs : List Int} {a n : Nat} {z : Int} (h : z ∈ part zs a n) : z ∈ zs := List.mem_of_mem_drop (List.mem_of_mem_take h)
theorem byteAt_bound {d : List Int} (h : okz d) (i : Nat) : -1 ≤ byteAt d i ∧ byteAt d i < 256 := by
  unfold byteAt
  split
  · rename_i hi
    have : d.getD i 0 ∈ d := by rw [List.getD_eq_getElem?_getD, List.getElem?_eq_getElem hi]; exact List.getElem_mem hi
    have := h _ this
    omega
  · omega

theorem hit_find {num : Int} {qs : List Pg} {q : Pg} (h : qs.find? (hit num) = some q) : q ∈ qs ∧ q.1 = num :=
  ⟨List.mem_of_find?_eq_some h, by simpa [hit] using List.find?_some h⟩
theorem hit_none {num : Int} {qs : List Pg} (h : qs.find? (hit num) = none) : num ∉ qs.map (·.1) := by
  intro hm
  obtain ⟨q, hq, e⟩ := List.mem_map.1 hm
  have := List.find?_eq_none.1 h q hq
  simp [hit, e] at this
theorem nd_filter {qs : List Pg} (h : (qs.map (·.1)).Nodup) (p : Pg → Bool) : ((qs.filter p).map (·.1)).Nodup :=
  List.Nodup.sublist (List.Sublist.map _ List.filter_sublist) h
theorem filter_len {num : Int} {qs : List Pg} {q : Pg} (hq : q ∈ qs) (e : q.1 = num) : (qs.filter (fun p => !hit num p)).length < qs.length := by
  have h1 : ∀ l : List Pg, (l.filter (fun p => !hit num p)).length + (l.filter (hit num)).length = l.length := by
    intro l
    induction l with
    | nil => rfl
    | cons a l ih => by_cases c : hit num a <;> simp [c] <;> omega
  have h2 : q ∈ qs.filter (hit num) := List.mem_filter.2 ⟨hq, by simp [hit, e]⟩
  have h3 := List.length_pos_of_mem h2
  have := h1 qs
  omega
theorem shift_sub (qs : List Pg) : (shift qs).Sublist qs := by
  unfold shift
  split
  · exact List.tail_sublist _
  · exact List.Sublist.refl _
theorem shift_len {qs : List Pg} (h : qs.length ≤ 6) : (shift qs).length ≤ 5 := by
  unfold shift
  split
  · simp; omega
  · omega

theorem readM_ok {size f : Int} {qs : List Pg} {zs : List Int} {at_ : Int} (h : OkS size qs f) (h0 : 0 ≤ at_) :
    OkS size (readM size f qs zs at_).1.2 (readM size f qs zs at_).1.1 := by
  have hn : 0 ≤ at_ / size := Int.ediv_nonneg h0 (by have := h.s1; omega)
  unfold readM
  cases e : qs.find? (hit (at_ / size)) with
  | some q =>
    obtain ⟨hq, hq1⟩ := hit_find e
    refine ⟨h.s1, h.s2, ?_, h.f0, h.f1, ?_, ?_⟩
    · have := filter_len hq hq1
      have := h.len
      simp only [List.length_append, List.length_cons, List.length_nil]
      omega
    · intro p hp
      rcases List.mem_append.1 hp with hp | hp
      · exact h.each p ((List.mem_filter.1 hp).1)
      · obtain rfl : p = q := by simpa using hp
        exact h.each p hq
    · simp only [List.map_append, List.map_cons, List.map_nil]
      rw [List.nodup_append]
      refine ⟨nd_filter h.nd _, by simp, ?_⟩
      intro a ha b hb
      obtain rfl : b = q.1 := by simpa using hb
      obtain ⟨p, hp, rfl⟩ := List.mem_map.1 ha
      have := (List.mem_filter.1 hp).2
      intro e2
      simp [hit, e2, hq1] at this
  | none =>
    have hnm := hit_none e
    refine ⟨h.s1, h.s2, ?_, ?_, ?_, ?_, ?_⟩
    · have := shift_len h.len
      simp only [List.length_append, List.length_cons, List.length_nil]
      omega
    · have := h.f0
      simp only
      omega
    · simp only
      omega
    · intro p hp
      rcases List.mem_append.1 hp with hp | hp
      · exact h.each p ((shift_sub qs).mem hp)
      · obtain rfl : p = _ := by simpa using hp
        refine ⟨hn, ?_⟩
        have := part_len zs (at_ / size * size).toNat size.toNat
        have := h.s1
        simp only
        omega
    · simp only [List.map_append, List.map_cons, List.map_nil]
      rw [List.nodup_append]
      refine ⟨List.Nodup.sublist ((shift_sub qs).map _) h.nd, by simp, ?_⟩
      intro a ha b hb
      obtain rfl : b = at_ / size := by simpa using hb
      intro e2
      subst e2
      exact hnm (((shift_sub qs).map _).mem ha)
theorem readM_okd {size f : Int} {qs : List Pg} {zs : List Int} {at_ : Int} (h : okd qs) (hz : okz zs) : okd (readM size f qs zs at_).1.2 := by
  unfold readM
  cases e : qs.find? (hit (at_ / size)) with
  | some q =>
    intro p hp
    rcases List.mem_append.1 hp with hp | hp
    · exact h p ((List.mem_filter.1 hp).1)
    · obtain rfl : p = q := by simpa using hp
      exact h p (hit_find e).1
  | none =>
    intro p hp
    rcases List.mem_append.1 hp with hp | hp
    · exact h p ((shift_sub qs).mem hp)
    · obtain rfl : p = _ := by simpa using hp
      exact fun z hz' => hz z (part_mem hz')
theorem readM_byte {size f : Int} {qs : List Pg} {zs : List Int} {at_ : Int} (h : okd qs) (hz : okz zs) : -1 ≤ (readM size f qs zs at_).2 ∧ (readM size f qs zs at_).2 < 256 := by
  unfold readM
  cases e : qs.find? (hit (at_ / size)) with
  | some q => exact byteAt_bound (h q (hit_find e).1) _
  | none => exact byteAt_bound (fun z hz' => hz z (part_mem hz')) _
theorem runM_ok {size : Int} {zs : List Int} : ∀ (n : Nat) {at_ f : Int} {qs : List Pg}, OkS size qs f → 0 ≤ at_ →
    OkS size (runM size zs n at_ f qs).1.2 (runM size zs n at_ f qs).1.1
  | 0, _, _, _, h, _ => h
  | n + 1, at_, f, qs, h, h0 => by
    unfold runM
    split
    · exact readM_ok h h0
    · exact runM_ok n (readM_ok h h0) (by omega)
theorem runM_okd {size : Int} {zs : List Int} (hz : okz zs) : ∀ (n : Nat) {at_ f : Int} {qs : List Pg}, okd qs → okd (runM size zs n at_ f qs).1.2
  | 0, _, _, _, h => h
  | n + 1, at_, f, qs, h => by
    unfold runM
    split
    · exact readM_okd h hz
    · exact runM_okd hz n (readM_okd h hz)
theorem runM_okz {size : Int} {zs : List Int} (hz : okz zs) : ∀ (n : Nat) {at_ f : Int} {qs : List Pg}, okd qs → okz (runM size zs n at_ f qs).2
  | 0, _, _, _, _ => fun z hz => by simp [runM] at hz
  | n + 1, at_, f, qs, h => by
    unfold runM
    split
    · exact fun z hz => by simp at hz
    · rename_i hlt
      intro z hz2
      rcases List.mem_cons.1 hz2 with rfl | hz2
      · have := readM_byte (size := size) (f := f) (at_ := at_) h hz
        omega
      · exact runM_okz hz n (readM_okd h hz) z hz2
theorem runM_len {size : Int} {zs : List Int} : ∀ (n : Nat) {at_ f : Int} {qs : List Pg}, (runM size zs n at_ f qs).2.length ≤ n
  | 0, _, _, _ => by simp [runM]
  | n + 1, at_, f, qs => by
    unfold runM
    split
    · simp
    · have := runM_len (size := size) (zs := zs) n (at_ := at_ + 1) (f := (readM size f qs zs at_).1.1) (qs := (readM size f qs zs at_).1.2)
      simp only [List.length_cons]
      omega

/-- How many different numbers there are (the list read from its end). -/
def dz : List Int → Nat
  | [] => 0
  | x :: r => if x ∈ r then dz r else dz r + 1
theorem dz_le : ∀ l : List Int, dz l ≤ l.length
  | [] => Nat.le_refl _
  | x :: r => by
    have := dz_le r
    unfold dz
    split <;> simp <;> omega
theorem dz_nd : ∀ l : List Int, dz l = l.length ↔ l.Nodup
  | [] => by simp [dz]
  | x :: r => by
    have h1 := dz_le r
    have h2 := dz_nd r
    unfold dz
    split
    · rename_i hx
      simp only [List.length_cons, List.nodup_cons, hx, not_true_eq_false, false_and, iff_false]
      omega
    · rename_i hx
      simp only [List.length_cons, List.nodup_cons, hx, not_false_eq_true, true_and, ← h2]
      omega

def key (n : Int) : Lit := .int .i64 n
theorem key_ne {a b : Int} (h : a ≠ b) : key a ≠ key b := by
  intro e
  unfold key at e
  injection e with _ e2
  exact h e2
theorem key_lit (n : Int) : WideAt.IsKeyLit (key n) := trivial
/-- How an element of the map of pages reads: as itself. -/
def R0 (v : Value) : Option (DataW Value × List MemPlace) := some (.held v, [])
abbrev Pv := Int × Value
structure MapIs (D : DataW Value) (ps : List Pv) : Prop where
  tidy : Tidy D
  size : Maps.size D = ps.length
  has : ∀ n, Maps.has D (key n) = decide (n ∈ ps.map (·.1))
  at_ : ∀ p ∈ ps, ∀ z, D.atKey (key p.1) z = .held p.2
structure MapTo (D : DataW Value) (ps : List Pv) : Prop where
  tidy : Tidy D
  size : Maps.size D = dz (ps.map (·.1)).reverse
  has : ∀ n, Maps.has D (key n) = decide (n ∈ ps.map (·.1))
  at_ : (ps.map (·.1)).Nodup → ∀ p ∈ ps, ∀ z, D.atKey (key p.1) z = .held p.2
theorem MapTo.empty : MapTo (.map []) [] := ⟨tidy_empty, rfl, fun n => by simp [Maps.has], fun _ p hp => by cases hp⟩
theorem MapTo.is {D : DataW Value} {ps : List Pv} (h : MapTo D ps) (hn : (ps.map (·.1)).Nodup) : MapIs D ps :=
  ⟨h.tidy, by rw [h.size, (dz_nd _).2 (List.pairwise_reverse.2 (List.Pairwise.imp (fun h => Ne.symm h) hn))]; simp, h.has, h.at_ hn⟩
theorem has_put {D : DataW Value} (hD : IsMap D) (n m : Int) (d : DataW Value) : Maps.has (D.put (key n) d) (key m) = (decide (m = n) || Maps.has D (key m)) := by
  by_cases e : m = n
  · subst e
    rw [has_put_same hD (key_lit _)]
    simp
  · rw [has_put_other (key_ne e)]
    simp [e]
theorem MapTo.put {D : DataW Value} {ps : List Pv} (h : MapTo D ps) (n : Int) (v : Value) : MapTo (D.put (key n) (.held v)) (ps ++ [(n, v)]) := by
  refine ⟨h.tidy.put (key_lit _) _, ?_, ?_, ?_⟩
  · rw [size_put h.tidy, h.has n, h.size]
    simp only [List.map_append, List.map_cons, List.map_nil, List.reverse_append, List.reverse_cons, List.reverse_nil, List.nil_append, List.singleton_append, dz, List.mem_reverse, decide_eq_true_eq]
  · intro m
    rw [has_put h.tidy.isMap, h.has m]
    simp only [List.map_append, List.map_cons, List.map_nil, List.mem_append, List.mem_singleton, Bool.decide_or]
    exact Bool.or_comm _ _
  · intro hn p hp z
    rw [List.map_append, List.nodup_append] at hn
    rcases List.mem_append.1 hp with hp | hp
    · have hne : p.1 ≠ n := hn.2.2 _ (List.mem_map.2 ⟨p, hp, rfl⟩) _ (by simp)
      rw [atKey_put_other (key_ne hne)]
      exact h.at_ hn.1 p hp z
    · obtain rfl : p = (n, v) := by simpa using hp
      exact atKey_put_same h.tidy.isMap (key_lit _) _ _
theorem MapIs.put {D : DataW Value} {ps : List Pv} (h : MapIs D ps) {n : Int} (hn : n ∉ ps.map (·.1)) (v : Value) : MapIs (D.put (key n) (.held v)) (ps ++ [(n, v)]) := by
  refine ⟨h.tidy.put (key_lit _) _, ?_, ?_, ?_⟩
  · rw [size_put h.tidy, h.has n, h.size]
    simp [hn]
  · intro m
    rw [has_put h.tidy.isMap, h.has m]
    simp only [List.map_append, List.map_cons, List.map_nil, List.mem_append, List.mem_singleton, Bool.decide_or]
    exact Bool.or_comm _ _
  · intro p hp z
    rcases List.mem_append.1 hp with hp | hp
    · have hne : p.1 ≠ n := fun e => hn (List.mem_map.2 ⟨p, hp, e⟩)
      rw [atKey_put_other (key_ne hne)]
      exact h.at_ p hp z
    · obtain rfl : p = (n, v) := by simpa using hp
      exact atKey_put_same h.tidy.isMap (key_lit _) _ _
theorem MapIs.del {D : DataW Value} {n : Int} {v : Value} {ps : List Pv} (h : MapIs D ((n, v) :: ps)) (hn : n ∉ ps.map (·.1)) : MapIs (D.del (key n)) ps := by
  refine ⟨h.tidy.del _, ?_, ?_, ?_⟩
  · have := size_del h.tidy (k := key n)
    rw [h.has n, h.size] at this
    simpa using this
  · intro m
    by_cases e : m = n
    · subst e
      rw [has_del_same]
      simp [hn]
    · rw [has_del_other (key_ne e), h.has m]
      simp [e]
  · intro p hp z
    have hne : p.1 ≠ n := fun e => hn (List.mem_map.2 ⟨p, hp, e⟩)
    rw [atKey_del_other (key_ne hne)]
    exact h.at_ p (List.mem_cons_of_mem _ hp) z
theorem MapIs.perm {D : DataW Value} {ps ps' : List Pv} (h : MapIs D ps) (e : ps.Perm ps') : MapIs D ps' := by
  refine ⟨h.tidy, by rw [h.size, e.length_eq], fun n => ?_, fun p hp => h.at_ p (e.mem_iff.2 hp)⟩
  rw [h.has n]
  congr 1
  exact propext (e.map _).mem_iff

/-- A map's bound may be its own size. -/
theorem own_tight {w : World} {P : Program} {k : TypeId} {R : Value → Option (DataW Value × List MemPlace)} {b n : Nat} {D : DataW Value} (h : w.ownsMap P k R b n D) : w.ownsMap P k R b (Maps.size D) D := by
  obtain ⟨es, clock, hb, F, hs, hD⟩ := h
  exact ⟨es, clock, hb, F, by rw [hD, size_eq, length_sorted]; simp, hD⟩
end Go.Proofs.Ytopmboioojedbac
