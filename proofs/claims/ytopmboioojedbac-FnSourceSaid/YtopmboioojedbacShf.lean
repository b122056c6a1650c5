/- What a shelf of pages is in memory; and the contract of impl's use: a page that is there becomes the last one. -/
import Derived.Test.YtopmboioojedbacSrc
import Derived.Test.YtopmboioojedbacDel
import Derived.WalkKit
import Derived.WalkSpells
import Derived.WalkLawsBesides
import Derived.Deep.RegionHeld3
import Derived.Deep.QuietTactic
import Derived.BigQuiet
import Derived.Maps.OwnOps
import Derived.Deep.AppendLies
namespace Go.Proofs.Ytopmboioojedbac
open Go.Maps Go.RowKit
/-- The slice value v holds the bytes zs, in a block below B. -/
def Sl (B : Nat) (w : World) (v : Value) (zs : List Int) : Prop :=
  (zs = [] ∧ ∃ a c, v = .slice a 0 c) ∨
  (zs ≠ [] ∧ ∃ b off c, v = .slice (some ⟨b, off, none⟩) zs.length c ∧ b < B ∧ zs.length ≤ c ∧ ∀ i, i < zs.length → w.cell? ⟨b, off + i, none⟩ = some (.int .u8 (zs.getD i 0)))
theorem Sl.stays {B : Nat} {w w' : World} {v : Value} {zs : List Int} (h : Sl B w v zs) (hb : Below B w w') : Sl B w' v zs := by
  rcases h with h | ⟨h, b, off, c, e, hlt, hlc, hc⟩
  · exact .inl h
  · exact .inr ⟨h, b, off, c, e, hlt, hlc, fun i hi => by rw [hb.cell hlt]; exact hc i hi⟩
theorem Sl.mono {B B' : Nat} {w : World} {v : Value} {zs : List Int} (h : Sl B w v zs) (hb : B ≤ B') : Sl B' w v zs := by
  rcases h with h | ⟨h, b, off, c, e, hlt, hlc, hc⟩
  · exact .inl h
  · exact .inr ⟨h, b, off, c, e, Nat.lt_of_lt_of_le hlt hb, hlc, hc⟩
def numV (p : Pv) : Value := .int .i64 p.1
/-- The shelf whose three blocks begin at B: the copy of the source, the map, the struct; the list of use behind them. -/
def Sh (B : Nat) (w : World) (size f : Int) (ps : List Pv) : Prop :=
  ∃ u D, w.heap[B + 2]? = some (.cells #[.int .i64 size, .map (some (B + 1)), u, .int .i64 f] 50 (0, 0)) ∧
    w.ownsMap Try.prog 3 R0 (B + 1) (Maps.size D) D ∧ MapIs D ps ∧ w.ownsRow (B + 3) 3 1 u ps.length (ps.map numV)
theorem map_block {w w' : World} {P : Program} {k : TypeId} {R : Value → Option (DataW Value × List MemPlace)} {b n : Nat} {D : DataW Value} (h : w.ownsMap P k R b n D) (e : w'.heap[b]? = w.heap[b]?) : w'.ownsMap P k R b n D := by
  obtain ⟨es, clock, hb, F, hs, hD⟩ := h
  exact ⟨es, clock, e.trans hb, F, hs, hD⟩
theorem row_block {w w' : World} {base : Nat} {e : TypeId} {size : Nat} {v : Value} {n : Nat} {xs : List Value} (h : w.ownsRow base e size v n xs) (hw : ∀ k, base ≤ k → k < w.heap.size → w'.heap[k]? = w.heap[k]?) : w'.ownsRow base e size v n xs := by
  refine ⟨h.1, ?_⟩
  rcases h.2 with hn | ⟨g, cap, cur, rfl, hb, hgg, rest⟩
  · exact .inl hn
  · exact .inr ⟨g, cap, cur, rfl, hb, by rw [hw g hb (Array.getElem?_eq_some_iff.1 hgg).1]; exact hgg, rest⟩
theorem lt_of_get {w : World} {b : Nat} {o : Obj} (h : w.heap[b]? = some o) : b < w.heap.size := (Array.getElem?_eq_some_iff.1 h).1
section
variable {w : World} {b : Nat} {x0 x1 x2 x3 : Value} {t : TypeId}
theorem c4_0 (h : w.heap[b]? = some (.cells #[x0, x1, x2, x3] t (0, 0))) : w.cell? ⟨b, 0, none⟩ = some x0 := by simp [World.cell?, h]
theorem c4_1 (h : w.heap[b]? = some (.cells #[x0, x1, x2, x3] t (0, 0))) : w.cell? ⟨b, 1, none⟩ = some x1 := by simp [World.cell?, h]
theorem c4_2 (h : w.heap[b]? = some (.cells #[x0, x1, x2, x3] t (0, 0))) : w.cell? ⟨b, 2, none⟩ = some x2 := by simp [World.cell?, h]
theorem c4_3 (h : w.heap[b]? = some (.cells #[x0, x1, x2, x3] t (0, 0))) : w.cell? ⟨b, 3, none⟩ = some x3 := by simp [World.cell?, h]
theorem c4_f (h : w.heap[b]? = some (.cells #[x0, x1, x2, x3] t (0, 0))) (i : Nat) : w.frozen? ⟨b, i, none⟩ = false := by simp [World.frozen?, h]
theorem c4_set2 (h : w.heap[b]? = some (.cells #[x0, x1, x2, x3] t (0, 0))) (v : Value) : (w.setCell ⟨b, 2, none⟩ v).heap[b]? = some (.cells #[x0, x1, v, x3] t (0, 0)) := by
  simp [World.setCell, Array.getElem?_modify, h]
theorem c4_set3 (h : w.heap[b]? = some (.cells #[x0, x1, x2, x3] t (0, 0))) (v : Value) : (w.setCell ⟨b, 3, none⟩ v).heap[b]? = some (.cells #[x0, x1, x2, v] t (0, 0)) := by
  simp [World.setCell, Array.getElem?_modify, h]
end
/-- What lies below B + 3 is kept by what happens from there on. -/
theorem Sh.keep {B : Nat} {w w' : World} {size f : Int} {u : Value} {D : DataW Value}
    (h1 : w.heap[B + 2]? = some (.cells #[.int .i64 size, .map (some (B + 1)), u, .int .i64 f] 50 (0, 0))) (h2 : w.ownsMap Try.prog 3 R0 (B + 1) (Maps.size D) D) (hb : Below (B + 3) w w') :
    w'.heap[B + 2]? = some (.cells #[.int .i64 size, .map (some (B + 1)), u, .int .i64 f] 50 (0, 0)) ∧ w'.ownsMap Try.prog 3 R0 (B + 1) (Maps.size D) D :=
  ⟨(hb.block _ (by omega)).trans h1, map_block h2 (hb.block _ (by omega))⟩
theorem Sh.lt {B : Nat} {w : World} {size f : Int} {ps : List Pv} (h : Sh B w size f ps) : B + 3 ≤ w.heap.size := by
  obtain ⟨u, D, h1, _⟩ := h
  exact lt_of_get h1
theorem Sh.drew {B : Nat} {w : World} {size f : Int} {ps : List Pv} (h : Sh B w size f ps) : Sh B w.drew size f ps := h
/-- The struct's field 'used' is written anew. -/
theorem Sh.setUsed {B : Nat} {w : World} {size f : Int} {u v : Value} {D : DataW Value} {ps : List Pv}
    (h1 : w.heap[B + 2]? = some (.cells #[.int .i64 size, .map (some (B + 1)), u, .int .i64 f] 50 (0, 0))) (h2 : w.ownsMap Try.prog 3 R0 (B + 1) (Maps.size D) D) (h3 : MapIs D ps)
    (h4 : w.ownsRow (B + 3) 3 1 v ps.length (ps.map numV)) : Sh B (w.setCell ⟨B + 2, 2, none⟩ v) size f ps :=
  ⟨v, D, c4_set2 h1 v, map_block h2 (Below.heap_setCell _ _ _ _ (by simp)), h3, row_block h4 (fun k hk _ => Below.heap_setCell _ _ _ _ (by simp; omega))⟩
theorem own_snoc {w : World} {base : Nat} {e : TypeId} {v : Value} {n : Nat} {ps : List Pv} {p : Pv} {xs : List Value} (h : w.ownsRow base e 1 v (n + 1) xs) (hx : xs = (ps ++ [p]).map numV) (hn : ps.length = n) : w.ownsRow base e 1 v (ps ++ [p]).length ((ps ++ [p]).map numV) := by
  rw [← hx, List.length_append, hn]
  exact h
theorem one_cellV (v : Value) (h : v.oneCell' = true) : ∀ u ∈ [v], u.oneCell' = true := by intro u hu; simp at hu; subst hu; exact h
theorem info3 : (Try.prog.info? 3).map (fun i => (i.zero, i.size, i.bytes)) = some (some (.int .i64 0), 1, 8) := by kernel_rfl
theorem nums_map (ps : List Pv) : ps.map numV = (ps.map (·.1)).map (Value.int .i64) := by simp [numV]
theorem take_del (l r : List Int) (x : Int) : ((l ++ x :: r).take l.length ++ (l ++ x :: r).drop (l.length + 1) ++ List.replicate 1 0).take (l.length + r.length) = l ++ r := by
  have e1 : (l ++ x :: r).take l.length = l := by simp
  have e2 : (l ++ x :: r).drop (l.length + 1) = r := by
    rw [List.drop_append]
    simp
  rw [e1, e2, List.append_assoc, ← List.append_assoc, List.take_append_of_le_length (by simp)]
  rw [List.take_of_length_le (by simp)]
set_option maxHeartbeats 2000000 in
theorem use_ (B : Nat) (w : World) (size f num : Int) (l r : List Pv) (v : Value) (hS : Sh B w size f (l ++ (num, v) :: r)) (hnd : num ∉ l.map (·.1)) (hlen : (l ++ (num, v) :: r).length ≤ 6) :
    Calls Try.prog 17 #[.pointer (some ⟨B + 2, 0, none⟩), .int .i64 num] w fun e w' => e = .returned (.tuple #[]) ∧ Sh B w' size f (l ++ r ++ [(num, v)]) ∧ Below B w w' := by
  have hlt := hS.lt
  obtain ⟨u, D, h1, h2, h3, h4⟩ := hS
  obtain ⟨ti, hti, hz0, hz1, hz2⟩ := info_parts info3
  have hu : u ≠ .slice none 0 0 := by
    intro e
    subst e
    rcases h4.2 with ⟨_, e⟩ | ⟨g, _, _, e, _⟩
    · simp at e
    · cases e
  have h4' := h4
  rw [nums_map] at h4'
  obtain ⟨g, cap, rfl, hg, hgl, hnc, hcm, hzl, hH⟩ := Lib.holds_of_ownsRow h4' hu
  have ez : (l ++ (num, v) :: r).map (·.1) = l.map (·.1) ++ num :: r.map (·.1) := by simp
  rw [ez] at hzl hH h4'
  clear ez
  have hcell : ∀ i, i < (l ++ (num, v) :: r).length → w.cell? ⟨g, i, none⟩ = some (.int .i64 (((l.map (·.1)) ++ num :: r.map (·.1))[i]!)) := by
    intro i hi
    have := (hH i (by simpa using hi)).1
    simpa using this
  have hxk : ((l.map (·.1)) ++ num :: r.map (·.1))[l.length]! = num := by simp
  have hxn : ∀ i, i < l.length → ((l.map (·.1)) ++ num :: r.map (·.1))[i]! ≠ num := by
    intro i hi e
    apply hnd
    rw [← e]
    rw [getElem!_pos _ i (by simp; omega), List.getElem_append_left (by simpa using hi)]
    exact List.getElem_mem _
  have hIdx := index_ g (l ++ (num, v) :: r).length cap l.length num _ w (by simp) (by omega) hcell hxk hxn
  have hDel := delete_ g cap l.length (l.length + 1) ((l.map (·.1)) ++ num :: r.map (·.1)) w hH (by omega) (by simp [maxLen] at hcm; omega) (by omega) (by simp)
  have c2 := c4_2 h1
  have f2 := c4_f h1 2
  have ed : ((l.length + 1 : Nat) : Int) = (l.length : Int) + 1 := by omega
  rw [ed, hzl] at hDel
  have hn6 : (l.length : Int) < 6 := by simp at hlen; omega
  have HZ : Hid (((l.map (·.1)) ++ num :: r.map (·.1)).length = (l ++ (num, v) :: r).length) := hzl
  have HT := take_del (l.map (·.1)) (r.map (·.1)) num
  rw [List.length_map, List.length_map] at HT
  have HT' : Hid _ := HT
  clear HT ed hzl hxk hxn hcell hH hnd
  generalize hm : (l ++ (num, v) :: r).length = n at *
  have HM : Hid ((l ++ (num, v) :: r).length = n) := hm
  clear hm
  generalize hk : l.length = k at *
  have HK : Hid (l.length = k) := hk
  clear hk
  rw [show k + 1 - k = 1 by omega] at hDel
  have HN : Hid (n = k + (r.length + 1)) := by
    have h1 := HM.out
    have h2 := HK.out
    show n = k + (r.length + 1)
    simp only [List.length_append, List.length_cons] at h1
    omega
  go_enter Try.func17, Try.ntmps17
  go_wp2_with fail
  refine hIdx.mono ?_
  rintro e w ⟨rfl, rfl⟩
  clear hIdx
  go_wp2_with fail
  refine hDel.mono ?_
  rintro e w1 ⟨rfl, q, hw1⟩
  have hB3 : Below (B + 3) w w1 := by rw [hw1]; exact Lib.below_putRow (Below.refl _ _) hg
  have hown1 : w1.ownsRow (B + 3) 3 1 (.slice (some ⟨g, 0, none⟩) (n - 1) cap) (n - 1) ((l ++ r).map numV) := by
    have hln : k + r.length = n - 1 := by have := HN.out; omega
    have := Lib.ownsRow_putRow (q := q) (k := n - 1) (ys := (l.map (·.1) ++ num :: r.map (·.1)).take k ++ (l.map (·.1) ++ num :: r.map (·.1)).drop (k + 1) ++ List.replicate 1 0) h4' (by
      have := HN.out
      have := HK.out
      simp
      omega) (by omega)
    rw [← hw1, ← hln, HT'.out, ← List.map_append, ← nums_map] at this
    rw [← hln]
    exact this
  clear hDel hw1
  obtain ⟨h1', h2'⟩ := Sh.keep h1 h2 hB3
  have c2' := c4_2 h1'
  have f2' := c4_f h1' 2
  have hlt1 : B + 3 ≤ w1.heap.size := Nat.le_trans hlt hB3.size
  have hne : w1.heap.size ≠ B + 2 := by omega
  go_wp2_with (at_builtin; refine wpList_append_own _ rfl _ _ 48 rfl (B + 3) 3 ti (.int .i64 0) 1 8 Try.underlying48 hti hz0 hz1 hz2 rfl (by decide) _ _ _ rfl (hown1.alloc _) ⟨w1.heap.size, 0, none⟩ 1 1 [.int .i64 num] rfl rfl (cell_one_new _ _ _) (one_cellV _ rfl) (by unfold maxLen; omega) (by omega) (by simp; omega) ?_)
  intro v' w2 hown2 hgrow _
  have hB3' : Below (B + 3) w1 w2 := ((Below.refl _ _).alloc hlt1 _).grown hgrow (by simp; omega) (fun j hj => by cases hj; exact hg)
  obtain ⟨h1'', h2''⟩ := Sh.keep h1' h2' hB3'
  have c2'' := c4_2 h1''
  have f2'' := c4_f h1'' 2
  have hlen2 : (l ++ r).length = n - 1 := by
    have := HN.out
    have := HK.out
    simp
    omega
  obtain ⟨g2, cap2, rfl, _⟩ := World.ownsRow.form hown2 (by omega)
  go_wp2_with fail
  go_end0
  refine ⟨rfl, Sh.setUsed h1'' h2'' (h3.perm ?_) (own_snoc (p := (num, v)) hown2 (by simp [numV]) hlen2), ?_⟩
  · rw [List.append_assoc]
    exact (List.perm_append_left_iff l).2 ((List.perm_append_singleton (num, v) r).symm)
  · exact ((hB3.trans hB3').mono (by omega)).setCell (by simp) _
end Go.Proofs.Ytopmboioojedbac
