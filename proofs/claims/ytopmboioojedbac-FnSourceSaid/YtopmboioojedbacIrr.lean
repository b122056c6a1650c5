/- The contract of impl.SourceRun. -/
import Derived.Test.YtopmboioojedbacIrn
import Derived.Test.YtopmboioojedbacRd2
import Derived.Deep.Light
namespace Go.Proofs.Ytopmboioojedbac
open Go.Maps Go.RowKit
def RunPost2 (r : (Int × List Pg × Int) × List Int) (w : World) (e : Ending) (w' : World) : Prop :=
  ∃ v vb lo, e = .returned (.tuple #[.agg #[.int .i64 r.1.1, v, .int .i64 r.1.2.2], vb]) ∧ Own lo w' v r.1.2.1 ∧ w.heap.size ≤ lo ∧ lo ≤ w'.heap.size ∧ w'.ownsRow w.heap.size 5 1 vb r.2.length (u8s r.2) ∧ (∀ b, vb.ownBlock = some b → b < lo) ∧ Below w.heap.size w w'
theorem row_keepB {w w' : World} {lo n : Nat} {v : Value} {xs : List Value} (h : w.ownsRow lo 5 1 v n xs) (hk : KeepB w w') : w'.ownsRow lo 5 1 v n xs := by
  refine ⟨h.1, ?_⟩
  rcases h.2 with h | ⟨g, cap, cur, e, hb, hg, r⟩
  · exact .inl h
  · exact .inr ⟨g, cap, cur, e, hb, hk g cur (0, 0) hg, r⟩
/-- A shelf stays while blocks of bytes are written and new ones are made. -/
theorem Sh.keepT {B : Nat} {w w' : World} {size f : Int} {ps : List Pv} (h : Sh B w size f ps) (hb : ∀ b, b < w.heap.size → (∀ cs fr, w.heap[b]? ≠ some (.cells cs 5 fr)) → w'.heap[b]? = w.heap[b]?) : Sh B w' size f ps := by
  obtain ⟨u, D, h1, h2, h3, h4⟩ := h
  refine ⟨u, D, ?_, map_block h2 (hb _ h2.lt (notB_map h2)), h3, ?_⟩
  · exact (hb (B + 2) (lt_of_get h1) (fun cs fr e => by rw [h1] at e; injection e with e; injection e with _ e; exact absurd e (by decide))).trans h1
  · refine ⟨h4.1, ?_⟩
    rcases h4.2 with e | ⟨g, cap, cur, e, hlo, hg, r⟩
    · exact .inl e
    · refine .inr ⟨g, cap, cur, e, hlo, (hb g (lt_of_get hg) (fun cs fr e => by rw [hg] at e; injection e with e; injection e with _ e; exact absurd e (by decide))).trans hg, r⟩
structure Ri (B : Nat) (w : World) (size f : Int) (qs : List Pg) (rv : Value) (acc : List Int) : Prop where
  sh : ∃ ps, Sh B w size f ps ∧ PQ B w ps qs
  ok : OkS size qs f
  okd : okd qs
  wf : ∀ q ∈ qs, (Lit.int .i64 q.1).wf = true
  row : w.ownsRow (B + 3) 5 1 rv acc.length (u8s acc)
theorem readM_small {size f : Int} {qs : List Pg} {zs : List Int} {at_ : Int} (hd : okd qs) (hz : okz zs) : -1 ≤ (readM size f qs zs at_).2 ∧ (readM size f qs zs at_).2 < 256 := by
  unfold readM
  cases h : qs.find? (hit (at_ / size)) with
  | some q => exact byteAt_bound (hd q (List.mem_of_find?_eq_some h)) _
  | none => exact byteAt_bound (fun z hz' => hz z (part_mem hz')) _
/-- One byte more at the end of the run. -/
theorem run_more {B : Nat} {w : World} {size f : Int} {qs : List Pg} {rv : Value} {acc : List Int} {x : Int} (h : Ri B w size f qs rv acc) (hB : B + 3 ≤ w.heap.size) (hl : acc.length ≤ 100000) (ty : TypeId) :
    ∃ v2 w2, (Builtin.append_ #[22, 22] ty #[rv, .slice (some ⟨w.heap.size, 0, none⟩) 1 1]).run Try.prog (w.alloc (.cells #[.int .u8 x] 5)) = .ok v2 w2 ∧ isSl v2 ∧ Ri B w2 size f qs v2 (acc ++ [x]) ∧ Below (B + 3) w w2 := by
  obtain ⟨ti, hti, hz0, hz1, hz2⟩ := info_parts info5
  obtain ⟨v2, w2, hr2, ho2, hg2, hnil, hl2⟩ := run_append_own_at (P := Try.prog) (w.alloc (.cells #[.int .u8 x] 5)) (B + 3) 22 ty 5 ti _ 1 1 Try.underlying22 hti hz0 hz1 hz2 rfl (by decide) rv acc.length _ (h.row.alloc _) ⟨w.heap.size, 0, none⟩ 1 1 [.int .u8 x] rfl
    (World.news_of_block (cs := #[.int .u8 x]) (t := 5) (fr := (0, 0)) (heap_alloc_new w _)) (by intro u hu; simp at hu; subst hu; rfl) (by unfold maxLen; omega) (by omega) (by simp; omega)
  have hsl : isSl v2 := by
    rcases ho2.2 with ⟨e, _⟩ | ⟨g, cap, cur, e, _⟩
    · exact ⟨_, _, _, e⟩
    · exact ⟨_, _, _, e⟩
  have hsz : w.heap.size ≤ w2.heap.size := by have := hg2.size; simp at this; omega
  have hblk : ∀ b, b < w.heap.size → rv.ownBlock ≠ some b → w2.heap[b]? = w.heap[b]? := fun b hb hne => (hg2.block b (by simp; omega) (fun e => hne e.symm)).trans (Below.heap_alloc w _ b hb)
  have hlo : ∀ b, rv.ownBlock = some b → B + 3 ≤ b := fun b hb => (h.row.lt b hb).1
  have hbel : Below (B + 3) w w2 := ⟨hg2.os, hg2.tape, hg2.output, hsz, fun b hb => hblk b (by omega) (fun e => by have := hlo b e; omega)⟩
  refine ⟨v2, w2, hr2, hsl, ⟨?_, h.ok, h.okd, h.wf, ?_⟩, hbel⟩
  · obtain ⟨ps, h1, h2⟩ := h.sh
    refine ⟨ps, h1.keepT (fun b hb hnb => hblk b hb (fun e => ?_)), h2.stays (hbel.mono (by omega))⟩
    rcases h.row.2 with ⟨e1, _⟩ | ⟨g, cap, cur, e1, _, hg, _⟩
    · rw [e1] at e; cases e
    · rw [e1] at e
      have e3 : g = b := by simpa [Value.ownBlock] using e
      rw [e3] at hg
      exact hnb _ _ hg
  · rw [List.length_append]
    have e : u8s (acc ++ [x]) = u8s acc ++ [.int .u8 x] := by simp [u8s]
    rw [e]
    exact ho2
end Go.Proofs.Ytopmboioojedbac
