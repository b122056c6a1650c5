/- The contract of spec.SourceByte. -/
import Derived.Test.YtlifedkieeogdagPrt
namespace Go.Proofs.Ytlifedkieeogdag
open Go.Maps Go.RowKit Go.Deep
/-- One page more at the end of own pages, its bytes lying in newer memory. -/
theorem page_push {lo : Nat} {w w1 : World} {v d : Value} {qs : List Pg} {x : Int} {zs : List Int} (hO : Own lo w v qs) (hw : Below w.heap.size w w1) (hd : w1.ownsRow lo 5 1 d zs.length (u8s zs)) (hdN : ∀ b, d.ownBlock = some b → w.heap.size ≤ b)
    (hq : qs.length ≤ 100) (hlo : lo ≤ w.heap.size) (ty2 : TypeId) :
    ∃ v2 w2, (Builtin.append_ #[27, 27] ty2 #[v, .slice (some ⟨w1.heap.size, 0, none⟩) 1 1]).run Try.prog (w1.alloc (.cells #[.int .i64 x, d] 51)) = .ok v2 w2 ∧
        (w1.alloc (.cells #[.int .i64 x, d] 51)).grownBy w2 v.ownBlock ∧ Own lo w2 v2 (qs ++ [(x, zs)]) ∧ (∀ k, v.ownBlock = some k → lo ≤ k ∧ k < w.heap.size) ∧ isSl v2 ∧ (∀ b, v2.ownBlock = some b → v.ownBlock = some b ∨ w1.heap.size ≤ b) := by
  obtain ⟨ti, hti, hz0, hz1, hz2⟩ := info_parts infoPg
  obtain ⟨ps, h1, h2, h3⟩ := hO
  have hsl : isSl d := by
    rcases hd.2 with ⟨e, _⟩ | ⟨g, cap, cur, e, _⟩
    · exact ⟨_, _, _, e⟩
    · exact ⟨_, _, _, e⟩
  have hsz := hw.size
  have hp1 : w1.ownsRow lo 51 2 v ps.length (cellsP ps) := row_block h1 (fun k _ hk => hw.block k hk)
  have hd1 : DO lo w1 ps qs := h2.stays hw (Nat.le_refl _)
  have hpl : ps.length ≤ 100 := by rw [h2.len]; exact hq
  have hd1c : d.oneCell' = true := by obtain ⟨a, n, c, rfl⟩ := hsl; rfl
  obtain ⟨v2, w2, hr2, ho2, hg2, hnil, hl2⟩ := run_append_own_at (P := Try.prog) (w1.alloc (.cells #[.int .i64 x, d] 51)) lo 27 ty2 51 ti _ 2 32 Try.underlying27 hti hz0 hz1 hz2 rfl (by decide) v ps.length _ (hp1.alloc _) ⟨w1.heap.size, 0, none⟩ 1 1 [.int .i64 x, d] rfl
    (World.news_of_block (cs := #[.int .i64 x, d]) (t := 51) (fr := (0, 0)) (heap_alloc_new w1 _)) (by intro u hu; simp at hu; rcases hu with rfl | rfl; rfl; exact hd1c) (by unfold maxLen; omega) (by omega) (by simp; omega)
  have hshape : isSl v2 := by
    rcases ho2.2 with ⟨e, _⟩ | ⟨g, cap, cur, e, _⟩
    · exact ⟨_, _, _, e⟩
    · exact ⟨_, _, _, e⟩
  have hltp : ∀ p ∈ ps, ∀ b, p.2.ownBlock = some b → b < w.heap.size := fun p hp b hb => (h2.lt p hp b hb).2
  have hv2 : ∀ b, v2.ownBlock = some b → v.ownBlock = some b ∨ w1.heap.size < b := by
    intro b hb
    rcases hl2 with e | e
    · left; rw [← e]; exact hb
    · right
      rw [e] at hb
      have : (w1.alloc (.cells #[.int .i64 x, d] 51)).heap.size = b := by simpa using hb
      simp at this
      omega
  refine ⟨v2, w2, hr2, hg2, ⟨ps ++ [(x, d)], ?_, ?_, ?_⟩, fun k hk => h1.lt k hk, hshape, fun b hb => (hv2 b hb).imp id (fun h => by omega)⟩
  · have e : cellsP (ps ++ [(x, d)]) = cellsP ps ++ [.int .i64 x, d] := by simp [cellsP]
    rw [e, List.length_append]
    exact ho2
  · have a1 : DO lo (w1.alloc (.cells #[.int .i64 x, d] 51)) ps qs := hd1.kept (World.grownBy_alloc _ _ none) (fun p _ => by cases p.2.ownBlock <;> simp)
    have a2 : DO lo w2 ps qs := a1.kept hg2 (fun p hp => by
      cases hb : p.2.ownBlock with
      | none => exact .inl rfl
      | some b => exact .inr (fun e => h3.row p hp b hb e.symm))
    refine a2.snoc rfl ?_
    refine (hd.alloc _).kept hg2 ?_
    cases hb : d.ownBlock with
    | none => exact .inl rfl
    | some b =>
      right
      intro e
      have := (h1.lt b e.symm).2
      have := hdN b hb
      omega
  · refine h3.snoc ?_ ?_ ?_
    · intro b hb hb2
      have e1 := hdN b hb
      rcases hv2 b hb2 with e | e
      · have := (h1.lt b e).2; omega
      · rcases hd.lt b hb with ⟨_, h⟩; omega
    · intro p hp b hb hb2
      have e1 := hltp p hp b hb
      rcases hv2 b hb2 with e | e
      · exact h3.row p hp b hb e
      · omega
    · intro p hp b hb hb2
      have e1 := hltp p hp b hb
      have e2 := hdN b hb2
      omega
/-- A copy of bytes behind an empty list that was made first. -/
theorem copy_bytes {B : Nat} {w : World} {pd : Value} {zs : List Int} (hS : Sl B w pd zs) (hB : B ≤ w.heap.size) (hl : zs.length ≤ 1048576) (ty : TypeId) :
    ∃ d w1, (Builtin.append_ #[37, 37] ty #[.slice (some ⟨w.heap.size, 0, none⟩) 0 0, pd]).run Try.prog (w.alloc (.cells #[] 5)) = .ok d w1 ∧ w1.ownsRow w.heap.size 5 1 d zs.length (u8s zs) ∧ Below w.heap.size w w1 ∧ isSl d := by
  have hBa : Below w.heap.size w (w.alloc (.cells #[] 5)) := (Below.refl _ w).alloc (Nat.le_refl _) _
  have hS2 : Sl w.heap.size (w.alloc (.cells #[] 5)) pd zs := (hS.mono hB).stays hBa
  obtain ⟨d, w1, hr, hd, hg, hloc, hsl⟩ := app_bytes hS2 w.heap.size (.slice (some ⟨w.heap.size, 0, none⟩) 0 0) [] (World.ownsRow_made w #[] 0 (Nat.le_refl _) (Nat.zero_le _) rfl) (by simp; omega) (by simp) ty
  rw [List.nil_append] at hd
  refine ⟨d, w1, hr, hd, hBa.grown hg (by simp) (fun k hk => by cases hk; exact Nat.le_refl _), hsl⟩
end Go.Proofs.Ytlifedkieeogdag
