/- The contract of spec.l02Part: a part of some bytes, in new memory. -/
import Derived.Test.YtlifedkieeogdagLok
namespace Go.Proofs.Ytlifedkieeogdag
open Go.Maps Go.RowKit Go.Deep
theorem part_snoc {zs : List Int} {a j : Nat} (h : a + j < zs.length) : part zs a (j + 1) = part zs a j ++ [zs.getD (a + j) 0] := by
  unfold part
  rw [List.take_add_one, List.getElem?_drop, List.getElem?_eq_getElem h]
  simp [h]
theorem part_full {zs : List Int} {a j n : Nat} (hj : j ≤ n) (h : ¬ (j < n ∧ a + j < zs.length)) : part zs a j = part zs a n := by
  unfold part
  by_cases e : j = n
  · rw [e]
  · rw [List.take_of_length_le (by rw [List.length_drop]; omega), List.take_of_length_le (by rw [List.length_drop]; omega)]
set_option maxHeartbeats 4000000 in
theorem part_ (w : World) (B : Nat) (vb : Value) (zs : List Int) (a n : Nat) (hS : Sl B w vb zs) (hz : zs.length ≤ 1048576) (ha : a ≤ 60000) (hn : n ≤ 60000) :
    Calls Try.prog 36 #[vb, .int .i64 a, .int .i64 n] w fun e w' => (∃ d, e = .returned d ∧ isSl d ∧ w'.ownsRow w.heap.size 5 1 d (part zs a n).length (u8s (part zs a n))) ∧ Below w.heap.size w w' := by
  obtain ⟨ad, c, rfl⟩ := sl_len hS
  obtain ⟨ti, hti, hz0, hz1, hz2⟩ := info_parts info5
  have HS : Hid (Sl B w (.slice ad zs.length c) zs) := hS
  clear hS
  go_enter Try.func36, Try.ntmps36
  go_wp2_with fail
  go_loopw [7, 8] (fun ov iv wr => ∃ j : Nat, j ≤ n ∧ iv = .int .i64 ((a : Int) + (j : Int)) ∧ wr.ownsRow w.heap.size 5 1 ov (part zs a j).length (u8s (part zs a j)) ∧ Below w.heap.size w wr) (fun _ iv _ => a + n - (intOf iv).toNat)
  case atStart => exact ⟨0, Nat.zero_le _, by simp, by simpa [part, u8s] using World.ownsRow_made w #[] 0 (Nat.le_refl _) (Nat.zero_le _) rfl, (Below.refl _ _).alloc (Nat.le_refl _) _⟩
  case round =>
    obtain ⟨j, hj, rfl, hown, hb⟩ := hrel
    have hpl := part_len zs a j
    by_cases hlt : j < n ∧ a + j < zs.length
    · obtain ⟨h1, h2⟩ := hlt
      have h1' : (a : Int) + (j : Int) < (a : Int) + (n : Int) := by omega
      have h2' : (a : Int) + (j : Int) < (zs.length : Int) := by omega
      have h3' : (0 : Int) ≤ (a : Int) + (j : Int) := by omega
      obtain ⟨b, off, rfl, hc⟩ : ∃ b off, ad = some ⟨b, off, none⟩ ∧ wr.cell? ⟨b, off + (a + j), none⟩ = some (.int .u8 (zs.getD (a + j) 0)) := by
        rcases HS.out with ⟨e, _⟩ | ⟨_, b, off, c', e, hbl, _, hcell⟩
        · rw [e] at h2; simp at h2
        · injection e with e
          refine ⟨b, off, e, ?_⟩
          rw [hb.cell (World.block_lt_of_cell? w _ (hcell (a + j) h2))]
          exact hcell (a + j) h2
      have htn : ((a : Int) + (j : Int)).toNat = a + j := by omega
      have hps := part_snoc h2
      have HPS : Hid (part zs a (j + 1) = part zs a j ++ [zs.getD (a + j) 0]) := hps
      generalize zs.getD (a + j) 0 = z at *
      have hsz := hb.size
      clear hps
      go_wp2_with (at_builtin; refine wpList_append_own _ rfl _ _ 37 rfl w.heap.size 5 ti (.int .u8 0) 1 1 Try.underlying37 hti hz0 hz1 hz2 rfl (by decide) _ _ _ rfl (hown.alloc _) ⟨wr.heap.size, 0, none⟩ 1 1 [.int .u8 z] rfl rfl (cell_one_new _ _ _) (one_cellV _ rfl) (by unfold maxLen; omega) (by omega) (by simp; omega) ?_)
      intro v' w1 hown' hgrow _
      have hown2 : w1.ownsRow w.heap.size 5 1 v' (part zs a (j + 1)).length (u8s (part zs a (j + 1))) := by
        rw [HPS.out, List.length_append]
        have e : u8s (part zs a j ++ [z]) = u8s (part zs a j) ++ [.int .u8 z] := by simp [u8s]
        rw [e]
        exact hown'
      have hB1 : Below w.heap.size w w1 := (hb.alloc hsz _).grown hgrow (by simp; omega) (fun k hk => (hown.lt k hk).1)
      clear hown' hgrow
      go_wp2_with fail
      go_roundw
      case rel => exact ⟨j + 1, h1, by go_num, hown2, hB1⟩
      case measure => simp [intOf]; omega
    · have HF : Hid (part zs a j = part zs a n) := part_full hj hlt
      have key : ¬ ((a : Int) + (j : Int) < (a : Int) + (n : Int)) ∨ ((a : Int) + (j : Int) < (a : Int) + (n : Int) ∧ ¬ ((a : Int) + (j : Int) < (zs.length : Int))) := by omega
      clear hlt
      have hfin := hown
      rw [HF.out] at hfin
      have hsl : ∀ {o : Value} {n : Nat} {xs : List Value}, wr.ownsRow w.heap.size 5 1 o n xs → isSl o := fun h => by
        rcases h.2 with ⟨e, _⟩ | ⟨g, cap, cur, e, _⟩
        · exact ⟨_, _, _, e⟩
        · exact ⟨_, _, _, e⟩
      have hsl2 := hsl hfin
      have HSL : Hid _ := hsl2
      have HFIN : Hid _ := hfin
      clear hown hfin hsl hsl2
      rcases key with h | ⟨h1, h⟩
      · go_wp2_with fail
        go_ret
        exact ⟨⟨_, rfl, HSL.out, HFIN.out⟩, hb⟩
      · go_wp2_with fail
        go_ret
        exact ⟨⟨_, rfl, HSL.out, HFIN.out⟩, hb⟩
end Go.Proofs.Ytlifedkieeogdag
