/- The text that FnLiteral makes of lines, and what LiteralAt and BlockText answer at it: plain facts. -/
import Derived.Test.YtfpkcfedkjjjbacLtp
namespace Go.Proofs.Ytfpkcfedkjjjbac
open Go.RowKit
theorem bt_left (A B : ByteArray) (i : Nat) (h : i < A.size) : bt (A ++ B) i = bt A i := by
  have h1 : i < A.data.size := by simpa using h
  unfold bt
  rw [ByteArray.data_append, getElem!_pos (A.data ++ B.data) i (by rw [Array.size_append]; omega), getElem!_pos A.data i h1, Array.getElem_append_left h1]
theorem bt_right (A B : ByteArray) (j : Nat) (h : j < B.size) : bt (A ++ B) (A.size + j) = bt B j := by
  have h1 : j < B.data.size := by simpa using h
  have h2 : A.size = A.data.size := by simp
  unfold bt
  rw [ByteArray.data_append, h2, getElem!_pos (A.data ++ B.data) (A.data.size + j) (by rw [Array.size_append]; omega), getElem!_pos B.data j h1, Array.getElem_append_right (by omega)]
  congr 2
  omega
theorem fwd_to {P : Nat → Bool} {s : ByteArray} : ∀ (c k m : Nat), k + c = m → m < s.size → (∀ j, k ≤ j → j < m → P (bt s j) = true) → P (bt s m) = false → fwd P s k = m
  | 0, k, m, hc, _, _, he => by
    have : k = m := by omega
    subst this
    exact fwd_stop he
  | c + 1, k, m, hc, hm, h, he => by
    rw [fwd_step (by omega) (h k (Nat.le_refl _) (by omega))]
    exact fwd_to c (k + 1) m (by omega) hm (fun j h1 h2 => h j (by omega) h2) he
/-- A line of the text, with its blank ahead and its break. -/
def lnT (x : ByteArray) : ByteArray := b32 ++ x ++ b10
def srcG : List ByteArray → ByteArray
  | [] => ByteArray.empty
  | x :: t => lnT x ++ srcG t
def catB : List ByteArray → ByteArray
  | [] => ByteArray.empty
  | x :: t => x ++ b10 ++ catB t
def hdr : ByteArray := ⟨#[124, 49, 43, 10]⟩
/-- What is asked of a line's bytes: n of them, m white ones ahead, i blanks ahead, mark: no mark begins it. -/
structure LineOk (x : ByteArray) where
  m : Nat
  i : Nat
  body : ∀ j, j < x.size + 1 → pN (bt (lnT x) j) = true
  last : bt (lnT x) (x.size + 1) = 10
  mw : ∀ j, j < m → pW (bt (lnT x) j) = true
  mn : pW (bt (lnT x) m) = false
  ml : m < x.size + 2
  iw : ∀ j, j < i → pB (bt (lnT x) j) = true
  inn : pB (bt (lnT x) i) = false
  il : i < x.size + 2
  i1 : 1 ≤ i
  lone : bt (lnT x) m = 10 → x = ByteArray.empty ∧ i = 1
  first : bt (lnT x) 0 = 32
theorem lnT_size (x : ByteArray) : (lnT x).size = x.size + 2 := by
  unfold lnT
  rw [ByteArray.size_append, ByteArray.size_append]
  show 1 + x.size + 1 = x.size + 2
  omega
theorem line_facts {A x B : ByteArray} (hx : LineOk x) (hA : A.size = 0 ∨ bt A (A.size - 1) = 10) :
    A.size < (A ++ (lnT x ++ B)).size ∧ markN (A ++ (lnT x ++ B)) A.size = 0 ∧ endL (A ++ (lnT x ++ B)) A.size = A.size + 1 + x.size ∧ nx (A ++ (lnT x ++ B)) A.size = (A ++ lnT x).size ∧
      1 ≤ ind (A ++ (lnT x ++ B)) A.size ∧ (lone (A ++ (lnT x ++ B)) A.size = true → x = ByteArray.empty ∧ ind (A ++ (lnT x ++ B)) A.size = 1) ∧ (A ++ (lnT x ++ B)).extract (A.size + 1) (A.size + 1 + x.size) = x := by
  obtain ⟨s, hs⟩ : ∃ s, A ++ (lnT x ++ B) = s := ⟨_, rfl⟩
  have hn := lnT_size x
  have hsz : s.size = A.size + (x.size + 2 + B.size) := by rw [← hs, ByteArray.size_append, ByteArray.size_append, hn]
  have hb : ∀ j, j < x.size + 2 → bt s (A.size + j) = bt (lnT x) j := by
    intro j hj
    rw [← hs, bt_right A _ j (by rw [ByteArray.size_append]; omega), bt_left _ _ j (by omega)]
  have hbg : lnb s A.size = A.size := by
    rw [lnb_beg]
    unfold beg
    rcases hA with h | h
    · rw [h]; rfl
    · have h0 : A.size ≠ 0 := by intro e; rw [e] at h; exact absurd h (by
        have : A = ByteArray.empty := by
          apply ba_ext
          have : A.data.toList.length = 0 := by simpa using e
          exact List.eq_nil_of_length_eq_zero this
        rw [this]; decide)
      rw [← hs, bt_left A _ (A.size - 1) (by omega), h]
      simp
  have hE : endL s A.size = A.size + 1 + x.size := by
    refine fwd_to (x.size + 1) _ _ (by omega) (by omega) (fun j h1 h2 => ?_) ?_
    · obtain ⟨j', rfl⟩ : ∃ j', j = A.size + j' := ⟨j - A.size, by omega⟩
      rw [hb j' (by omega)]
      exact hx.body j' (by omega)
    · rw [show A.size + 1 + x.size = A.size + (x.size + 1) by omega, hb _ (by omega), hx.last]; rfl
  have hI : fwd pB s A.size = A.size + hx.i := by
    refine fwd_to hx.i _ _ rfl (by have := hx.il; omega) (fun j h1 h2 => ?_) ?_
    · obtain ⟨j', rfl⟩ : ∃ j', j = A.size + j' := ⟨j - A.size, by omega⟩
      rw [hb j' (by have := hx.il; omega)]
      exact hx.iw j' (by omega)
    · rw [hb _ hx.il]; exact hx.inn
  have hW : wh s A.size = A.size + hx.m := by
    refine fwd_to hx.m _ _ rfl (by have := hx.ml; omega) (fun j h1 h2 => ?_) ?_
    · obtain ⟨j', rfl⟩ : ∃ j', j = A.size + j' := ⟨j - A.size, by omega⟩
      rw [hb j' (by have := hx.ml; omega)]
      exact hx.mw j' (by omega)
    · rw [hb _ hx.ml]; exact hx.mn
  have hind : ind s A.size = hx.i := by unfold ind; rw [hbg, hI]; omega
  rw [hs]
  refine ⟨by omega, ?_, hE, ?_, by rw [hind]; exact hx.i1, ?_, ?_⟩
  · have h0 := hb 0 (by omega)
    rw [Nat.add_zero, hx.first] at h0
    unfold markN is3
    split
    · simp [h0]
    · rfl
  · unfold nx
    rw [hE, if_pos (by omega), ByteArray.size_append, hn]
    omega
  · intro h
    unfold lone at h
    rw [hbg, hW] at h
    unfold brk at h
    rw [hb _ hx.ml, decide_eq_false (by have := hx.ml; omega), Bool.false_or, beq_iff_eq] at h
    rw [hind]
    exact hx.lone h
  · rw [← hs]
    apply ba_ext
    rw [Lib.extract_data]
    have e1 : (A ++ (lnT x ++ B)).data.toList = A.data.toList ++ (32 :: (x.data.toList ++ (10 :: B.data.toList))) := by
      unfold lnT b32 b10
      simp [ByteArray.data_append]
    have e2 : A.size = A.data.toList.length := by simp
    have e3 : x.size = x.data.toList.length := by simp
    rw [e1, e2, e3, show A.data.toList.length + 1 + x.data.toList.length - (A.data.toList.length + 1) = x.data.toList.length by omega, ← List.drop_drop, List.drop_left, List.drop_one, List.tail_cons, List.take_left]
theorem srcG_cons (A x : ByteArray) (t : List ByteArray) : A ++ srcG (x :: t) = A ++ (lnT x ++ srcG t) := rfl
theorem lnT_last (A x : ByteArray) : bt (A ++ lnT x) ((A ++ lnT x).size - 1) = 10 := by
  have hn := lnT_size x
  rw [ByteArray.size_append, hn, show A.size + (x.size + 2) - 1 = A.size + (x.size + 1) by omega, bt_right A _ _ (by omega)]
  unfold lnT
  have h1 : (b32 ++ x).size = x.size + 1 := by rw [ByteArray.size_append]; show 1 + x.size = _; omega
  have h := bt_right (b32 ++ x) b10 0 (by decide)
  rw [h1, Nat.add_zero] at h
  rw [h]; rfl
theorem lt_all : ∀ (l : List ByteArray) (A : ByteArray) (l0 : List ByteArray) (f : Nat), (∀ x ∈ l, Nonempty (LineOk x)) → (A.size = 0 ∨ bt A (A.size - 1) = 10) → (A ++ srcG l).size < f + A.size →
    ltGo (A ++ srcG l) 1 f A.size true l0 = (l0 ++ l, (A ++ srcG l).size)
  | [], A, l0, f, _, _, _ => by
    show ltGo (A ++ ByteArray.empty) 1 f A.size true l0 = (l0 ++ [], (A ++ ByteArray.empty).size)
    rw [app_empty, List.append_nil, lt_end (.inl (Nat.le_refl _))]
  | x :: t, A, l0, f, hok, hA, hf => by
    obtain ⟨hx⟩ := hok x (List.mem_cons_self ..)
    have hF := line_facts (B := srcG t) hx hA
    rw [srcG_cons] at hf ⊢
    have ih := lt_all t (A ++ lnT x) (l0 ++ [x])
    rw [app_assoc] at ih
    obtain ⟨s, hs⟩ : ∃ s, A ++ (lnT x ++ srcG t) = s := ⟨_, rfl⟩
    rw [hs] at hF hf ih ⊢
    obtain ⟨h1, h2, h3, h4, h5, h6, h7⟩ := hF
    obtain ⟨f, rfl⟩ : ∃ f', f = f' + 1 := ⟨f - 1, by omega⟩
    have ih' := ih f (fun y hy => hok y (List.mem_cons_of_mem _ hy)) (.inr (lnT_last A x)) (by
      rw [ByteArray.size_append, lnT_size]; omega)
    rw [List.append_assoc, List.singleton_append] at ih'
    have n1 : ¬ (s.size ≤ A.size ∨ 0 < markN s A.size) := by rw [h2]; omega
    cases hl : lone s A.size with
    | false =>
      rw [lt_take n1 (by omega) (.inl hl), h3, h7, h4, Bool.true_or]
      exact ih'
    | true =>
      obtain ⟨hx0, hi⟩ := h6 hl
      rw [lt_none n1 (by rw [hl]; simp) (by rw [hl, hi]; simp), h4, Bool.true_or]
      rw [hx0] at ih' ⊢
      exact ih'
theorem endB_rest (l : List ByteArray) : ∀ k, k ≤ l.length → ∀ j, endB l k ≤ j → j < k → l[j]? = some ByteArray.empty
  | 0, _, j, _, h => by omega
  | k + 1, hk, j, h1, h2 => by
    obtain ⟨x, hx⟩ : ∃ x, l[k]? = some x := ⟨_, List.getElem?_eq_getElem (by omega)⟩
    by_cases he : x = ByteArray.empty
    · rw [endB_step hx he] at h1
      by_cases hj : j = k
      · rw [hj, hx, he]
      · exact endB_rest l k (by omega) j h1 (by omega)
    · rw [endB_fix (.inr ⟨x, by rw [Nat.add_sub_cancel]; exact hx, he⟩)] at h1
      omega
theorem catB_app : ∀ (a b : List ByteArray), catB (a ++ b) = catB a ++ catB b
  | [], b => (empty_app _).symm
  | x :: t, b => by
    show x ++ b10 ++ catB (t ++ b) = x ++ b10 ++ catB t ++ catB b
    rw [catB_app t b, app_assoc (x ++ b10)]
theorem catB_join : ∀ l : List ByteArray, l ≠ [] → catB l = joinB l ++ b10
  | [], h => absurd rfl h
  | [x], _ => by
    show x ++ b10 ++ ByteArray.empty = x ++ b10
    rw [app_empty]
  | x :: y :: t, _ => by
    have ih := catB_join (y :: t) (by simp)
    show x ++ b10 ++ catB (y :: t) = x ++ b10 ++ joinB (y :: t) ++ b10
    rw [ih, app_assoc (x ++ b10)]
theorem catB_empties : ∀ l : List ByteArray, (∀ x ∈ l, x = ByteArray.empty) → catB l = brks l.length
  | [], _ => rfl
  | x :: t, h => by
    show x ++ b10 ++ catB t = b10 ++ brks t.length
    rw [catB_empties t (fun y hy => h y (List.mem_cons_of_mem _ hy)), h x (List.mem_cons_self ..), empty_app]
theorem block_keep (l : List ByteArray) : blockText l false 2 = catB l := by
  have hle := endB_le l l.length
  have hr := endB_rest l l.length (Nat.le_refl _)
  obtain ⟨E, hE⟩ : ∃ E, endB l l.length = E := ⟨_, rfl⟩
  unfold blockText
  rw [hE] at hle hr ⊢
  have hd : catB (l.drop E) = brks (l.length - E) := by
    rw [catB_empties, List.length_drop]
    intro x hx
    obtain ⟨j, hj⟩ := List.getElem?_of_mem hx
    rw [List.getElem?_drop] at hj
    have hlt : E + j < l.length := by
      rcases Nat.lt_or_ge (E + j) l.length with h | h
      · exact h
      · rw [List.getElem?_eq_none h] at hj; cases hj
    rw [hr (E + j) (by omega) hlt] at hj
    injection hj with hj
    exact hj.symm
  have hc : catB l = catB (l.take E) ++ catB (l.drop E) := by rw [← catB_app, List.take_append_drop]
  rw [hc, hd, if_neg (by simp), if_pos rfl]
  by_cases h0 : 0 < E
  · rw [if_pos ⟨h0, by decide⟩, catB_join]
    intro e
    have h1 : (l.take E).length = 0 := by rw [e]; rfl
    rw [List.length_take] at h1
    omega
  · have : E = 0 := by omega
    subst this
    rw [if_neg (fun h => h0 h.1)]
    rfl
/-- LiteralAt at the text. -/
theorem lit_src (l : List ByteArray) (hok : ∀ x ∈ l, Nonempty (LineOk x)) : litAt (hdr ++ srcG l) 0 (-1) = (catB l, (hdr ++ srcG l).size, 0) ∧ 0 < (hdAt (hdr ++ srcG l) 0).1 := by
  have h4 : hdr.size = 4 := rfl
  have hA := lt_all l hdr [] ((hdr ++ srcG l).size + 1) hok (.inr rfl) (by omega)
  obtain ⟨s, hs⟩ : ∃ s, hdr ++ srcG l = s := ⟨_, rfl⟩
  have hb : ∀ j, j < 4 → bt s j = bt hdr j := fun j hj => by rw [← hs, bt_left _ _ _ (by rw [h4]; exact hj)]
  have hsz : 4 ≤ s.size := by rw [← hs, ByteArray.size_append]; omega
  have b0 : bt s 0 = 124 := hb 0 (by omega)
  have b1' : bt s 1 = 49 := hb 1 (by omega)
  have b2' : bt s 2 = 43 := hb 2 (by omega)
  have b3' : bt s 3 = 10 := hb 3 (by omega)
  rw [hs] at hA ⊢
  rw [h4] at hA
  have hgo : hdGo s (s.size + 1) 1 0 0 = (1, 2, 3) := by
    obtain ⟨f, hf⟩ : ∃ f, s.size + 1 = f + 3 := ⟨s.size - 2, by omega⟩
    rw [hf, hd_digit (by omega) (by rw [b1']; omega), b1', hd_plus (by omega) (by omega) (by rw [b2']; omega), hd_stop (by omega) (by rw [b3']; omega) (by omega) (by omega)]
  have hE3 : endL s 3 = 3 := fwd_stop (by rw [b3']; rfl)
  have hrs : rest s 3 = (3, true) := by
    have hw : wh s 3 = 3 := fwd_stop (by rw [b3']; rfl)
    unfold rest
    rw [hw, if_pos (by unfold restP brk; rw [b3']; simp), hE3]
  have hH : hdAt s 0 = (1, 2, 3, 0) := by
    unfold hdAt
    rw [if_neg (by rw [b0]; omega), hgo]
    unfold hdEnd
    rw [hrs]
    rfl
  have hnx : nx s 3 = 4 := by unfold nx; rw [hE3, if_pos (by omega)]
  have hR : ltR s (-1) (1, 2, 3, 0) = ([] ++ l, s.size) := by
    unfold ltR ltD
    show ltGo s (if 1 = 0 then dp s (nx s 3) (-1) else if (60000 : Int) < -1 then 60000 else (if (0 : Int) < -1 then (-1 : Int).toNat else 0) + 1) (s.size + 1) (nx s 3) (decide (0 < 1)) [] = _
    rw [hnx, if_neg (by decide), if_neg (by decide), if_neg (by decide)]
    exact hA
  refine ⟨?_, by rw [hH]; exact Nat.one_pos⟩
  unfold litAt
  rw [hH, if_neg (by simp), hR, b0]
  show (blockText ([] ++ l) false 2, s.size, 0) = _
  rw [List.nil_append, block_keep]
/-- The texts that the lines are drawn of. -/
def ok0 : LineOk ByteArray.empty := { m := 1, i := 1, body := by decide, last := by decide, mw := by decide, mn := by decide, ml := by decide, iw := by decide, inn := by decide, il := by decide, i1 := by decide, lone := fun _ => ⟨rfl, rfl⟩, first := by decide }
def ok1 : LineOk ⟨#[97]⟩ := { m := 1, i := 1, body := by decide, last := by decide, mw := by decide, mn := by decide, ml := by decide, iw := by decide, inn := by decide, il := by decide, i1 := by decide, lone := fun h => absurd h (by decide), first := by decide }
def ok2 : LineOk ⟨#[98, 32, 99]⟩ := { m := 1, i := 1, body := by decide, last := by decide, mw := by decide, mn := by decide, ml := by decide, iw := by decide, inn := by decide, il := by decide, i1 := by decide, lone := fun h => absurd h (by decide), first := by decide }
def ok3 : LineOk ⟨#[32, 102, 97, 114]⟩ := { m := 2, i := 2, body := by decide, last := by decide, mw := by decide, mn := by decide, ml := by decide, iw := by decide, inn := by decide, il := by decide, i1 := by decide, lone := fun h => absurd h (by decide), first := by decide }
def ok4 : LineOk ⟨#[9, 116, 97, 98]⟩ := { m := 2, i := 1, body := by decide, last := by decide, mw := by decide, mn := by decide, ml := by decide, iw := by decide, inn := by decide, il := by decide, i1 := by decide, lone := fun h => absurd h (by decide), first := by decide }
def ok5 : LineOk ⟨#[120]⟩ := { m := 1, i := 1, body := by decide, last := by decide, mw := by decide, mn := by decide, ml := by decide, iw := by decide, inn := by decide, il := by decide, i1 := by decide, lone := fun h => absurd h (by decide), first := by decide }
end Go.Proofs.Ytfpkcfedkjjjbac
