/- Plain facts of folded lines: without breaks and blanks they are the lines themselves; and they are no longer than the lines that are kept. -/
import Derived.Test.YtckpfdjaobdclacThn
import Derived.Test.YtckpfdjaobdclacSbt
namespace Go.Proofs.Ytckpfdjaobdclac
open Go.RowKit
theorem thinB_app (a b : ByteArray) : thinB (a ++ b) = thinB a ++ thinB b := by
  apply ba_ext'
  apply Array.ext'
  unfold thinB
  rw [ByteArray.data_append, ByteArray.data_append, Array.toList_append, Array.toList_append]
  show ((a.data.toList ++ b.data.toList).filter pT) = _
  rw [List.filter_append]
theorem thinB_empty : thinB ByteArray.empty = ByteArray.empty := rfl
theorem thinB_b10 : thinB b10 = ByteArray.empty := rfl
theorem thinB_b32 : thinB b32 = ByteArray.empty := rfl
theorem thinB_brks : ∀ n, thinB (brks n) = ByteArray.empty
  | 0 => rfl
  | n + 1 => by rw [brks, thinB_app, thinB_brks n, thinB_b10, app_empty]
def thA : List ByteArray → ByteArray
  | [] => ByteArray.empty
  | x :: t => thinB x ++ thA t
theorem thA_app : ∀ (a b : List ByteArray), thA (a ++ b) = thA a ++ thA b
  | [], b => by rw [List.nil_append]; exact (empty_app _).symm
  | x :: t, b => by
    show thinB x ++ thA (t ++ b) = thinB x ++ thA t ++ thA b
    rw [thA_app t b, app_assoc]
theorem thin_ff (L : Nat) : ∀ (l : List Pc) (k : Nat) (out : ByteArray) (n : Nat) (g : Bool), thinB (ffGo L k l out n g) = thinB out ++ thA (l.map (·.1))
  | [], k, out, n, g => (app_empty _).symm
  | (x, gx) :: t, k, out, n, g => by
    rw [ffGo]
    split
    · rename_i h
      have hx : x = ByteArray.empty := h.2.2.1
      rw [thin_ff L t, hx]
      show _ = thinB out ++ (thinB ByteArray.empty ++ thA (t.map (·.1)))
      rw [thinB_empty, empty_app]
    · rw [thin_ff L t]
      show thinB ((if 0 < k ∧ n = 0 ∧ g = false then out ++ b32 else out) ++ brks n ++ x) ++ _ = thinB out ++ (thinB x ++ thA (t.map (·.1)))
      rw [thinB_app, thinB_app, thinB_brks, app_empty]
      have h : thinB (if 0 < k ∧ n = 0 ∧ g = false then out ++ b32 else out) = thinB out := by
        split
        · rw [thinB_app, thinB_b32, app_empty]
        · rfl
      rw [h, app_assoc]
theorem thin_fb : ∀ (l : List ByteArray) (out : ByteArray) (n : Nat) (y : Option ByteArray), thinB (fbGo l out n y) = thinB out ++ thA l
  | [], out, n, y => by cases y <;> exact (app_empty _).symm
  | x :: t, out, n, y => by
    by_cases hx : x = ByteArray.empty
    · rw [fb_skip hx, thin_fb t, hx]
      show _ = thinB out ++ (thinB ByteArray.empty ++ thA t)
      rw [thinB_empty, empty_app]
    · cases y with
      | none =>
        rw [fb_none hx, thin_fb t, thinB_app, thinB_app, thinB_brks, app_empty, app_assoc]
        rfl
      | some y =>
        cases hf : farS x || farS y with
        | true =>
          rw [fb_far hx hf, thin_fb t, thinB_app, thinB_app, thinB_brks, app_empty, app_assoc]
          rfl
        | false =>
          rw [fb_near hx hf, thin_fb t, thinB_app, thinB_app, thinB_brks, app_empty]
          have h : thinB (if n = 0 then out ++ b32 else out) = thinB out := by
            split
            · rw [thinB_app, thinB_b32, app_empty]
            · rfl
          rw [h, app_assoc]
          rfl
theorem thin_join : ∀ l : List ByteArray, thinB (joinB l) = thA l
  | [] => rfl
  | [x] => by
    show thinB x = thinB x ++ ByteArray.empty
    rw [app_empty]
  | x :: y :: t => by
    show thinB (x ++ b10 ++ joinB (y :: t)) = thinB x ++ thA (y :: t)
    rw [thinB_app, thinB_app, thinB_b10, app_empty, thin_join (y :: t)]
theorem thA_end (l : List ByteArray) : ∀ k, k ≤ l.length → thA (l.take (endB l k)) = thA (l.take k)
  | 0, _ => rfl
  | k + 1, hk => by
    rw [endB]
    split
    · rename_i h
      rw [thA_end l k (by omega), List.take_add_one, thA_app]
      have hlt : k < l.length := by omega
      rw [List.getD_eq_getElem?_getD, List.getElem?_eq_getElem hlt] at h
      rw [List.getElem?_eq_getElem hlt]
      have h2 : l[k] = ByteArray.empty := h
      rw [h2]
      show _ = thA (l.take k) ++ (thinB ByteArray.empty ++ ByteArray.empty)
      rw [thinB_empty, app_empty, app_empty]
    · rfl
theorem thin_tail (E : Nat) (ch : Int) (B : ByteArray) : thinB (tailB E ch B) = thinB B := by
  unfold tailB
  split
  · rw [thinB_app, thinB_b10, app_empty]
  · rfl
theorem thin_block (l : List ByteArray) (fd : Bool) (ch : Int) : thinB (blockText l fd ch) = thA l := by
  have h := thA_end l l.length (Nat.le_refl _)
  rw [List.take_length] at h
  rw [blockText_eq, thinB_app, thinB_brks, app_empty, thin_tail]
  cases fd with
  | true =>
    rw [if_pos rfl]
    show thinB (fbGo _ _ _ _) = _
    rw [thin_fb, thinB_empty, empty_app, h]
  | false =>
    rw [if_neg (by simp), thin_join, h]
theorem thin_flow (ps : List Pc) : thinB (foldFlow ps) = thA (ps.map (·.1)) := by
  show thinB (ffGo _ _ _ _ _ _) = _
  rw [thin_ff, thinB_empty, empty_app]
theorem fb_some_le : ∀ (l : List ByteArray) (out : ByteArray) (n : Nat) (y : ByteArray), (fbGo l out n (some y)).size ≤ out.size + n + totS l + l.length
  | [], out, n, y => by show out.size ≤ _; omega
  | x :: t, out, n, y => by
    by_cases hx : x = ByteArray.empty
    · rw [fb_skip hx]
      have := fb_some_le t out (n + 1) y
      simp only [totS, List.length_cons]
      omega
    · cases hf : farS x || farS y with
      | true =>
        rw [fb_far hx hf]
        have := fb_some_le t (out ++ brks (n + 1) ++ x) 0 x
        simp only [ByteArray.size_append, brks_size] at this
        simp only [totS, List.length_cons]
        omega
      | false =>
        rw [fb_near hx hf]
        have := fb_some_le t ((if n = 0 then out ++ b32 else out) ++ brks n ++ x) 0 x
        simp only [ByteArray.size_append, brks_size] at this
        have h2 : (if n = 0 then out ++ b32 else out).size + n ≤ out.size + n + 1 := by
          split
          · rw [ByteArray.size_append, show b32.size = 1 from rfl]; omega
          · omega
        simp only [totS, List.length_cons]
        omega
theorem fb_none_le : ∀ (l : List ByteArray) (out : ByteArray) (n : Nat), l ≠ [] → (fbGo l out n none).size + 1 ≤ out.size + n + totS l + l.length
  | [], out, n, h => absurd rfl h
  | x :: t, out, n, _ => by
    by_cases hx : x = ByteArray.empty
    · rw [fb_skip hx]
      by_cases ht : t = []
      · subst ht
        show out.size + 1 ≤ out.size + n + (x.size + 0) + 1
        omega
      · have := fb_none_le t out (n + 1) ht
        simp only [totS, List.length_cons]
        omega
    · rw [fb_none hx]
      have := fb_some_le t (out ++ brks n ++ x) 0 x
      simp only [ByteArray.size_append, brks_size] at this
      simp only [totS, List.length_cons]
      omega
theorem joinB_len : ∀ l : List ByteArray, l ≠ [] → (joinB l).size + 1 = totS l + l.length
  | [], h => absurd rfl h
  | [x], _ => by show x.size + 1 = x.size + 0 + 1; omega
  | x :: y :: t, _ => by
    have := joinB_len (y :: t) (by simp)
    show (x ++ b10 ++ joinB (y :: t)).size + 1 = x.size + totS (y :: t) + ((y :: t).length + 1)
    rw [ByteArray.size_append, ByteArray.size_append, show b10.size = 1 from rfl]
    omega
theorem fold_le_join (l : List ByteArray) : (foldBlock l).size ≤ (joinB l).size := by
  by_cases h : l = []
  · subst h; exact Nat.le_refl _
  · have h1 := fb_none_le l ByteArray.empty 0 h
    have h2 := joinB_len l h
    have h3 : ByteArray.empty.size = 0 := rfl
    show (fbGo l ByteArray.empty 0 none).size ≤ _
    omega
theorem tail_le {E : Nat} {ch : Int} {B C : ByteArray} (h : B.size ≤ C.size) : (tailB E ch B).size ≤ (tailB E ch C).size := by
  unfold tailB
  split
  · rw [ByteArray.size_append, ByteArray.size_append]; omega
  · exact h
theorem block_le (l : List ByteArray) (ch : Int) : (blockText l true ch).size ≤ (blockText l false ch).size := by
  rw [blockText_eq, blockText_eq, ByteArray.size_append, ByteArray.size_append, if_pos rfl, if_neg (by simp)]
  have := tail_le (E := endB l l.length) (ch := ch) (fold_le_join (l.take (endB l l.length)))
  omega
theorem block_size (l : List ByteArray) (fd : Bool) (ch : Int) : (blockText l fd ch).size ≤ 2 * totS l + 4 * l.length + 1 := by
  have hE := endB_le l l.length
  have ht := totS_le l (endB l l.length)
  have h2 : (tailB (endB l l.length) ch (if fd = true then foldBlock (l.take (endB l l.length)) else joinB (l.take (endB l l.length)))).size ≤ totS l + 2 * l.length + 1 := by
    have h3 : (if fd = true then foldBlock (l.take (endB l l.length)) else joinB (l.take (endB l l.length))).size ≤ totS l + 2 * l.length := by
      have hl : (l.take (endB l l.length)).length ≤ l.length := by rw [List.length_take]; omega
      have h4 := joinB_size (l.take (endB l l.length))
      have h5 := fold_le_join (l.take (endB l l.length))
      split <;> omega
    unfold tailB
    split
    · rw [ByteArray.size_append, show b10.size = 1 from rfl]; omega
    · omega
  have h6 : restN l.length (endB l l.length) ch ≤ l.length := by unfold restN; split <;> omega
  rw [blockText_eq, ByteArray.size_append, brks_size]
  omega
theorem block_pos (l : List ByteArray) (fd : Bool) (h : l ≠ []) : 0 < (blockText l fd 2).size := by
  have hl : 0 < l.length := List.length_pos_iff.2 h
  rw [blockText_eq, ByteArray.size_append, brks_size]
  by_cases hE : 0 < endB l l.length
  · unfold tailB
    rw [if_pos ⟨hE, by decide⟩, ByteArray.size_append, show b10.size = 1 from rfl]
    omega
  · unfold restN
    rw [if_pos rfl]
    omega
theorem ff_size (L : Nat) : ∀ (l : List Pc) (k : Nat) (out : ByteArray) (n : Nat) (g : Bool), (ffGo L k l out n g).size ≤ out.size + n + totC l + 2 * l.length
  | [], k, out, n, g => by show out.size ≤ _; omega
  | (x, gx) :: t, k, out, n, g => by
    rw [ffGo]
    split
    · have := ff_size L t (k + 1) out (n + 1) g
      simp only [totC, List.length_cons]
      omega
    · have := ff_size L t (k + 1) ((if 0 < k ∧ n = 0 ∧ g = false then out ++ b32 else out) ++ brks n ++ x) 0 gx
      simp only [ByteArray.size_append, brks_size] at this
      have h2 : (if 0 < k ∧ n = 0 ∧ g = false then out ++ b32 else out).size ≤ out.size + 1 := by
        split
        · rw [ByteArray.size_append]; exact Nat.le_refl _
        · omega
      simp only [totC, List.length_cons]
      omega
theorem flow_size (ps : List Pc) : (foldFlow ps).size ≤ totC ps + 2 * ps.length := by
  have := ff_size ps.length ps 0 ByteArray.empty 0 false
  have h3 : ByteArray.empty.size = 0 := rfl
  show (ffGo _ _ _ _ _ _).size ≤ _
  omega
/-- The lines as pieces. -/
def pcs (ss : List ByteArray) : List Pc := ss.map fun s => (s, false)
theorem pcs_fst (ss : List ByteArray) : (pcs ss).map (·.1) = ss := by
  unfold pcs
  rw [List.map_map]
  exact List.map_id _
theorem pcs_tot : ∀ ss : List ByteArray, totC (pcs ss) = totS ss
  | [] => rfl
  | s :: t => by
    show s.size + totC (pcs t) = s.size + totS t
    rw [pcs_tot t]
theorem tot_le100 : ∀ {ss : List ByteArray}, (∀ s ∈ ss, s.size ≤ 100) → totS ss ≤ 100 * ss.length
  | [], _ => Nat.le_refl _
  | s :: t, h => by
    have h1 := h s (by simp)
    have h2 := tot_le100 (ss := t) (fun x hx => h x (by simp [hx]))
    simp only [totS, List.length_cons]
    omega
end Go.Proofs.Ytckpfdjaobdclac
