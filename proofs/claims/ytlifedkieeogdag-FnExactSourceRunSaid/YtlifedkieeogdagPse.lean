/- The last page put behind the others, wherever they lie. -/
import Derived.Test.YtlifedkieeogdagLpu
namespace Go.Proofs.Ytlifedkieeogdag
open Go.Maps Go.RowKit Go.Deep
/-- Pages and the bytes of one more, ready to be put together: all in blocks from lo on. -/
def PlE (lo : Nat) (w : World) (v : Value) (qs : List Pg) (d : Value) (zs : List Int) : Prop :=
  ∃ ps, ((v = .slice none 0 0 ∧ ps = []) ∨ ∃ g off cap, v = .slice (some ⟨g, off, none⟩) ps.length cap ∧ ps.length ≤ cap ∧ lo ≤ g ∧ g < w.heap.size ∧
      (∀ i p, ps[i]? = some p → w.cell? ⟨g, off + i * 2, none⟩ = some (.int .i64 p.1) ∧ w.cell? ⟨g, off + i * 2 + 1, none⟩ = some p.2) ∧
      (∀ j, j < (cap - ps.length) * 2 → (w.cell? ⟨g, off + ps.length * 2 + j, none⟩).isSome = true ∧ w.frozen? ⟨g, off + ps.length * 2 + j, none⟩ = false) ∧
      (∀ p ∈ ps, p.2.ownBlock ≠ some g) ∧ d.ownBlock ≠ some g) ∧ DO lo w ps qs ∧ w.ownsRow lo 5 1 d zs.length (u8s zs)
/-- Pages that can be read wherever the blocks from lo on are as they were. -/
def RdL (lo : Nat) (w : World) (v : Value) (qs : List Pg) : Prop := ∀ w', (∀ k, lo ≤ k → k < w.heap.size → w'.heap[k]? = w.heap[k]?) → w.heap.size ≤ w'.heap.size → Rdp w' v qs
theorem DO.blocks {lo : Nat} {w w' : World} (hw : ∀ k, lo ≤ k → k < w.heap.size → w'.heap[k]? = w.heap[k]?) : ∀ {ps : List Pv} {qs : List Pg}, DO lo w ps qs → DO lo w' ps qs
  | [], [], _ => trivial
  | _ :: _, _ :: _, h => ⟨h.1, row_block h.2.1 hw, DO.blocks hw h.2.2⟩
  | [], _ :: _, h => h.elim
  | _ :: _, [], h => h.elim
theorem ple_of_own {lo : Nat} {w : World} {v d : Value} {qs : List Pg} {zs : List Int} (hO : Own lo w v qs) (hd : w.ownsRow lo 5 1 d zs.length (u8s zs)) (hf : far d v) : PlE lo w v qs d zs := by
  obtain ⟨ps, h1, h2, h3⟩ := hO
  refine ⟨ps, ?_, h2, hd⟩
  rcases h1.2 with ⟨e, hn⟩ | ⟨g, cap, cur, rfl, hb, hg, hn, hm, hs, ht⟩
  · exact .inl ⟨e, List.length_eq_zero_iff.1 hn⟩
  · right
    have hcell : ∀ j, w.cell? ⟨g, j, none⟩ = cur[j]? := fun j => by simp [World.cell?, hg]
    refine ⟨g, 0, cap, rfl, hn, hb, lt_of_get hg, ?_, ?_, ?_, ?_⟩
    · intro i p hi
      have hc := cellsP_at hi
      rw [← ht] at hc
      have hil : i < ps.length := by
        rcases Nat.lt_or_ge i ps.length with h | h
        · exact h
        · rw [List.getElem?_eq_none h] at hi; cases hi
      rw [List.getElem?_take, if_pos (by omega), List.getElem?_take, if_pos (by omega), Array.getElem?_toList, Array.getElem?_toList] at hc
      rw [Nat.zero_add, hcell, hcell]
      exact hc
    · intro j hj
      refine ⟨?_, by simp [World.frozen?, hg]⟩
      rw [hcell, Array.getElem?_eq_getElem (by omega)]
      rfl
    · intro p hp e
      exact h3.row p hp g e rfl
    · intro e
      exact hf g e rfl
theorem ple_shift {lo g : Nat} {off n cap : Nat} {w : World} {d : Value} {q : Pg} {qs : List Pg} {zs : List Int} (h : PlE lo w (.slice (some ⟨g, off, none⟩) n cap) (q :: qs) d zs) : 1 ≤ n ∧ n ≤ cap ∧ PlE lo w (.slice (some ⟨g, off + 2, none⟩) (n - 1) (cap - 1)) qs d zs := by
  obtain ⟨ps, hv, h2, hd⟩ := h
  cases ps with
  | nil => exact h2.elim
  | cons p ps =>
    rcases hv with ⟨e, _⟩ | ⟨g', off', cap', e, hn, hb, hlt, hc, hsp, hne, hnd⟩
    · cases e
    · injection e with e1 e2 e3
      injection e1 with e1
      injection e1 with e1 e4
      subst e1 e2 e3 e4
      refine ⟨by simp, hn, ps, .inr ⟨g, off + 2, cap - 1, by simp, ?_, hb, hlt, ?_, ?_, fun x hx => hne x (by simp [hx]), hnd⟩, h2.2.2, hd⟩
      · simp at hn; omega
      · intro i x hi
        have := hc (i + 1) x (by simpa using hi)
        rw [show off + (i + 1) * 2 = off + 2 + i * 2 by omega] at this
        exact this
      · intro j hj
        have := hsp j (by simp; omega)
        rw [show off + (p :: ps).length * 2 + j = off + 2 + ps.length * 2 + j by simp; omega] at this
        exact this
theorem ple_tail {lo g : Nat} {off n cap : Nat} {w : World} {d : Value} {qs : List Pg} {zs : List Int} (h : PlE lo w (.slice (some ⟨g, off, none⟩) n cap) qs d zs) (hne : qs ≠ []) : n ≤ cap ∧ PlE lo w (.slice (some ⟨g, off + 2, none⟩) (n - 1) (cap - 1)) qs.tail d zs := by
  cases qs with
  | nil => exact absurd rfl hne
  | cons q qs => exact (ple_shift h).2
theorem PlE.blocks {lo : Nat} {w w' : World} {v d : Value} {qs : List Pg} {zs : List Int} (h : PlE lo w v qs d zs) (hw : ∀ k, lo ≤ k → k < w.heap.size → w'.heap[k]? = w.heap[k]?) (hs : w.heap.size ≤ w'.heap.size) : PlE lo w' v qs d zs := by
  obtain ⟨ps, hv, h2, hd⟩ := h
  refine ⟨ps, ?_, DO.blocks hw h2, row_block hd hw⟩
  rcases hv with h | ⟨g, off, cap, e, hn, hb, hlt, hc, hsp, hne, hnd⟩
  · exact .inl h
  · have hg := hw g hb hlt
    refine .inr ⟨g, off, cap, e, hn, hb, by omega, fun i p hi => ⟨(World.cell?_of_block hg).trans (hc i p hi).1, (World.cell?_of_block hg).trans (hc i p hi).2⟩, fun j hj => ?_, hne, hnd⟩
    refine ⟨?_, ?_⟩
    · rw [show w'.cell? ⟨g, off + ps.length * 2 + j, none⟩ = w.cell? ⟨g, off + ps.length * 2 + j, none⟩ from World.cell?_of_block hg]
      exact (hsp j hj).1
    · have := (hsp j hj).2
      unfold World.frozen? at *
      rw [hg]
      exact this
theorem pushE {lo : Nat} {w : World} {v d : Value} {qs : List Pg} {zs : List Int} {x : Int} (hP : PlE lo w v qs d zs) (hlo : lo ≤ w.heap.size) (hq : qs.length ≤ 100) (ty2 : TypeId) :
    ∃ v2 w2, (Builtin.append_ #[27, 27] ty2 #[v, .slice (some ⟨w.heap.size, 0, none⟩) 1 1]).run Try.prog (w.alloc (.cells #[.int .i64 x, d] 51)) = .ok v2 w2 ∧ isSl v2 ∧ Below lo w w2 ∧ w.heap.size ≤ w2.heap.size ∧
      RdL lo w2 v2 (qs ++ [(x, zs)]) ∧ w2.ownsRow lo 5 1 d zs.length (u8s zs) := by
  obtain ⟨ps, hv, h2, hd⟩ := hP
  have hsl : isSl d := by
    rcases hd.2 with ⟨e, _⟩ | ⟨g, cap, cur, e, _⟩
    · exact ⟨_, _, _, e⟩
    · exact ⟨_, _, _, e⟩
  have hd1c : d.oneCell' = true := by obtain ⟨a, n, c, rfl⟩ := hsl; rfl
  rcases hv with ⟨rfl, rfl⟩ | ⟨g, off, cap, rfl, hn, hb, hlt, hc, hsp, hne, hnd⟩
  · obtain ⟨ti, hti, hz0, hz1, hz2⟩ := info_parts infoPg
    obtain ⟨v2, w2, hr2, ho2, hg2, hnil, hl2⟩ := run_append_own_at (P := Try.prog) (w.alloc (.cells #[.int .i64 x, d] 51)) lo 27 ty2 51 ti _ 2 32 Try.underlying27 hti hz0 hz1 hz2 rfl (by decide) (.slice none 0 0) 0 [] (World.ownsRow_nil _ _ _ _) ⟨w.heap.size, 0, none⟩ 1 1 [.int .i64 x, d] rfl
      (World.news_of_block (cs := #[.int .i64 x, d]) (t := 51) (fr := (0, 0)) (heap_alloc_new w _)) (by intro u hu; simp at hu; rcases hu with rfl | rfl; rfl; exact hd1c) (by unfold maxLen; omega) (by omega) (by simp; omega)
    have hshape : isSl v2 := by
      rcases ho2.2 with ⟨e, _⟩ | ⟨g, cap, cur, e, _⟩
      · exact ⟨_, _, _, e⟩
      · exact ⟨_, _, _, e⟩
    have hblk : ∀ k, k < w.heap.size → w2.heap[k]? = w.heap[k]? := fun k hk => (hg2.block k (by simp; omega) (by simp [Value.ownBlock])).trans (Below.heap_alloc w _ k hk)
    have hsz : w.heap.size ≤ w2.heap.size := by have := hg2.size; simp at this; omega
    have hd2 : w2.ownsRow lo 5 1 d zs.length (u8s zs) := row_block hd (fun k _ hk => hblk k hk)
    obtain rfl : qs = [] := by cases qs with
      | nil => rfl
      | cons _ _ => exact h2.elim
    refine ⟨v2, w2, hr2, hshape, ⟨hg2.os, hg2.tape, hg2.output, hsz, fun k hk => hblk k (by omega)⟩, hsz, ?_, hd2⟩
    intro w' hw' hsz'
    have ho3 : w'.ownsRow lo 51 2 v2 [(x, d)].length (cellsP [(x, d)]) := row_block ho2 hw'
    exact ⟨[(x, d)], slp_of_own ho3, ⟨rfl, sl_of_own (row_block hd2 hw'), trivial⟩⟩
  · obtain ⟨v2, w2, hr, hSlP, hsl2, hbel, hoth, b2, o2, c2, hv2, hb2⟩ := last_push (lo := lo) (x := x) (d := d) rfl hn (by rw [h2.len]; exact hq) hb hlt hc hsp hsl ty2
    have hd2 : w2.ownsRow lo 5 1 d zs.length (u8s zs) := by
      refine ⟨hd.1, ?_⟩
      rcases hd.2 with h | ⟨gd, cap', cur, e, hb', hgg, r⟩
      · exact .inl h
      · refine .inr ⟨gd, cap', cur, e, hb', (hoth gd (lt_of_get hgg) ?_).trans hgg, r⟩
        intro e'
        rw [e, e'] at hnd
        exact hnd rfl
    have hDO2 : ∀ {ps : List Pv} {qs : List Pg}, (∀ p ∈ ps, p.2.ownBlock ≠ some g) → DO lo w ps qs → DO lo w2 ps qs := by
      intro ps
      induction ps with
      | nil => intro qs _ h; cases qs with
        | nil => trivial
        | cons _ _ => exact h.elim
      | cons p ps ih => intro qs hne h; cases qs with
        | nil => exact h.elim
        | cons q qs =>
          refine ⟨h.1, ?_, ih (fun y hy => hne y (by simp [hy])) h.2.2⟩
          refine ⟨h.2.1.1, ?_⟩
          rcases h.2.1.2 with h | ⟨gd, cap', cur, e, hb', hgg, r⟩
          · exact .inl h
          · refine .inr ⟨gd, cap', cur, e, hb', (hoth gd (lt_of_get hgg) ?_).trans hgg, r⟩
            intro e'
            have := hne p (by simp)
            rw [e, e'] at this
            exact this rfl
    have h3 := hDO2 hne h2
    refine ⟨v2, w2, hr, hsl2, hbel, hbel.size, ?_, hd2⟩
    intro w' hw' hsz'
    refine ⟨ps ++ [(x, d)], ?_, ?_⟩
    · rcases hSlP with ⟨e, _⟩ | ⟨h, b, o, c, e, hbl, hlc, hcell⟩
      · simp at e
      · right
        rw [hv2] at e
        injection e with e1 e2 e3
        injection e1 with e1
        injection e1 with e1 e4
        subst e1
        refine ⟨h, b2, o, c, ?_, by omega, hlc, fun i p hi => ?_⟩
        · rw [hv2, e2, e3, e4]
        · exact ⟨(World.cell?_of_block (hw' b2 hb2 hbl)).trans (hcell i p hi).1, (World.cell?_of_block (hw' b2 hb2 hbl)).trans (hcell i p hi).2⟩
    · exact (pq_of_do (DO.blocks hw' h3)).snoc rfl (sl_of_own (row_block hd2 hw'))
end Go.Proofs.Ytlifedkieeogdag
