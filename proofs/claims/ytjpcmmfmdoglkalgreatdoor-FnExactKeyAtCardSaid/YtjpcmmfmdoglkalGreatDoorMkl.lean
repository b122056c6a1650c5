/- Several texts in one: Qi0 Kln. -/
import Derived.Test.YtjpcmmfmdoglkalGreatDoorSk0
import Derived.Test.YtjpcmmfmdoglkalGreatDoorSst
import Derived.Test.YtjpcmmfmdoglkalGreatDoorSdb
import Derived.Test.YtjpcmmfmdoglkalGreatDoorPap
/- What KeyAt asks: the functions' own answers, plain. -/
namespace Go.Proofs.YtjpcmmfmdoglkalGreatDoor
open Go.ChangeShapes Go.WideShapes Go.ChangeAt Go.RowKit
/-- What KeyAt asks: tags are not read by it. -/
def qK : Ask := { name := fun s k => (nameT s k, nameE s k, nameB s k), tag := fun s k => (tagT s k, tagE s k, tagB s k), read := fun _ => none, single := sgAt, double := dbAt, plain := plAt, first := plF }
theorem sg_in {s : ByteArray} : ∀ (f i : Nat) (l : List Pc) (cur t : ByteArray) (x : Nat), i ≤ s.size → sgGo s f i l cur = (t, x, 0) → i < x ∧ x ≤ s.size
  | 0, i, l, cur, t, x, _, h => by
    rw [sgGo] at h
    injection h with _ h
    injection h with _ h
    cases h
  | f + 1, i, l, cur, t, x, hi, h => by
    rw [sgGo] at h
    split at h
    · injection h with _ h
      injection h with _ h
      cases h
    · rename_i h1
      split at h
      · split at h
        · rename_i h3
          have := sg_in f _ _ _ _ _ (by omega) h
          omega
        · injection h with _ h
          injection h with h _
          omega
      · split at h
        · split at h
          · injection h with _ h
            injection h with _ h
            cases h
          · have h4 := fwd_ge pW s (i + 1)
            have h5 := fwd_le pW s (i + 1) (by omega)
            have := sg_in f _ _ _ _ _ (show wh s (i + 1) ≤ s.size from h5) h
            have h6 : i + 1 ≤ wh s (i + 1) := h4
            omega
        · have := sg_in f _ _ _ _ _ (by omega) h
          omega
theorem db_in {s : ByteArray} : ∀ (f i : Nat) (l : List Pc) (cur : ByteArray) (keep : Nat) (t : ByteArray) (x : Nat), i ≤ s.size → dbGo s f i l cur keep = (t, x, 0) → i < x ∧ x ≤ s.size
  | 0, i, l, cur, keep, t, x, _, h => by
    rw [dbGo] at h
    injection h with _ h
    injection h with _ h
    cases h
  | f + 1, i, l, cur, keep, t, x, hi, h => by
    rw [dbGo] at h
    split at h
    · injection h with _ h
      injection h with _ h
      cases h
    · rename_i h1
      split at h
      · injection h with _ h
        injection h with h _
        omega
      · split at h
        · split at h
          · injection h with _ h
            injection h with _ h
            cases h
          · have h4 := fwd_ge pW s (i + 1)
            have h5 := fwd_le pW s (i + 1) (by omega)
            have := db_in f _ _ _ _ _ _ (show wh s (i + 1) ≤ s.size from h5) h
            have h6 : i + 1 ≤ wh s (i + 1) := h4
            omega
        · split at h
          · split at h
            · rename_i h7
              split at h
              · injection h with _ h
                injection h with _ h
                cases h
              · have h4 := fwd_ge pW s (i + 2)
                have h5 := fwd_le pW s (i + 2) (by omega)
                have := db_in f _ _ _ _ _ _ (show wh s (i + 2) ≤ s.size from h5) h
                have h6 : i + 2 ≤ wh s (i + 2) := h4
                omega
            · split at h
              · injection h with _ h
                injection h with _ h
                cases h
              · rename_i h8
                have h9 := esc_in (s := s) (i := i) (t := (escAt s i).1) (x := (escAt s i).2) rfl h8
                have := db_in f _ _ _ _ _ _ h9.2.1 h
                omega
          · have := db_in f _ _ _ _ _ _ (by omega) h
            omega
theorem plE_gt {s : ByteArray} {k : Nat} {fl : Bool} (h : plF s k fl = true) : k < plE s k fl ∧ k < s.size := by
  have hg : gapP s k = false := by
    cases hh : gapP s k with
    | false => rfl
    | true => rw [plF_gap hh] at h; cases h
  have hk : k < s.size := by
    unfold gapP at hg
    rcases Nat.lt_or_ge k s.size with h' | h'
    · exact h'
    · rw [decide_eq_true h'] at hg; cases hg
  have hpg : pG (bt s k) = false := by
    unfold gapP at hg
    rw [decide_eq_false (by omega)] at hg
    simpa using hg
  have hbad : bt s k ∉ badL := fun hb => by rw [plF_bad hg hb] at h; cases h
  have hbr : brk s k = false := by
    unfold brk
    rw [decide_eq_false (by omega)]
    cases hh : (bt s k == 10) with
    | false => rfl
    | true =>
      have : bt s k = 10 := by simpa using hh
      rw [this] at hpg
      cases hpg
  have hf6 : pF6 (bt s k) = false := by
    cases hh : pF6 (bt s k) with
    | false => rfl
    | true =>
      exfalso
      apply hbad
      unfold pF6 at hh
      unfold badL
      simp at hh ⊢
      omega
  have hst : stopP s k k fl = false := by
    unfold stopP
    rw [decide_eq_false (Nat.lt_irrefl k), hf6]
    by_cases h58 : bt s k = 58
    · have h2 := plF_ask (fl := fl) hg hbad (by omega)
      rw [h2] at h
      simp only [Bool.and_eq_true, Bool.not_eq_true'] at h
      rw [h.1, h.2]
      simp
    · simp [h58]
  have h1 : k + 1 ≤ pe1 s k fl (s.size - k) k := by
    obtain ⟨f, hf⟩ : ∃ f, s.size - k = f + 1 := ⟨s.size - k - 1, by omega⟩
    rw [hf, pe1, hbr, hst]
    exact pe1_ge s k fl f (k + 1)
  refine ⟨?_, hk⟩
  unfold plE
  generalize pe1 s k fl (s.size - k) k = q at h1
  have hw : pW (bt s k) = false := by
    cases hh : pW (bt s k) with
    | false => rfl
    | true => rw [pW_pG hh] at hpg; cases hpg
  induction q with
  | zero => omega
  | succ q ih =>
    rw [pe2]
    split
    · rename_i hc
      by_cases hq : q = k
      · subst hq
        exact absurd hc.2 (by rw [hw]; simp)
      · exact ih (by omega)
    · omega
theorem askK0_K (s : ByteArray) (hs : s.size ≤ 1048576) : AskK0 qK s := by
  have hmx : s.size ≤ mx := by unfold mx; omega
  refine ⟨?_, ?_, ?_, ?_, ?_, ?_, ?_⟩
  · intro k w t x r hk h
    have h' : (nameT s k, nameE s k, nameB s k) = (t, x, r) := h
    have c := spec_name s (k : Int) w hmx
    rw [cl_nat _ _ hk] at c
    injection h' with h1 h2
    injection h2 with h2 h3
    rw [h1, h2, h3] at c
    exact c
  · intro k w t x c hk h
    exact spec_singleAt s (k : Int) w hs t x c (by rw [cl_nat _ _ hk]; exact h)
  · intro k w t x c hk h
    exact spec_doubleAt s (k : Int) w hs t x c (by rw [cl_nat _ _ hk]; exact h)
  · intro k fl w r hk h
    refine (spec_plainFirst s (k : Int) fl w hmx r (by rw [cl_nat _ _ hk]; exact h)).mono ?_
    rintro e w' ⟨rfl, hw⟩
    exact ⟨rfl, by first | exact hw | (rw [hw]; exact Below.refl _ _)⟩
  · intro k t x hk h
    have h' : (nameT s k, nameE s k, nameB s k) = (t, x, true) := h
    injection h' with _ h'
    injection h' with h1 h2
    have hb := h2
    unfold nameE at h1
    rw [if_pos h2] at h1
    unfold nameB sgn at hb
    simp only [Bool.and_eq_true, decide_eq_true_eq] at hb
    have := str_le s (k + 1) (by omega)
    omega
  · intro k t x hk h
    have h' : sgAt s k = (t, x, 0) := h
    unfold sgAt at h'
    split at h'
    · injection h' with _ h'
      injection h' with _ h'
      cases h'
    · rename_i hc
      have := sg_in _ (k + 1) _ _ _ _ (by omega) h'
      omega
  · intro k t x hk h
    have h' : dbAt s k = (t, x, 0) := h
    unfold dbAt at h'
    split at h'
    · injection h' with _ h'
      injection h' with _ h'
      cases h'
    · rename_i hc
      have := db_in _ (k + 1) _ _ _ _ _ (by omega) h'
      omega
end Go.Proofs.YtjpcmmfmdoglkalGreatDoor
/- A key on one line: a scalar in quotes of the text up to the line's end is one of the whole text that ends on that line. -/
namespace Go.Proofs.YtjpcmmfmdoglkalGreatDoor
open Go.RowKit
/-- The text up to a place. -/
def upTo (s : ByteArray) (n : Nat) : ByteArray := s.extract 0 n
theorem upTo_size {s : ByteArray} {n : Nat} (h : n ≤ s.size) : (upTo s n).size = n := by unfold upTo; rw [ByteArray.size_extract]; omega
theorem upTo_bt {s : ByteArray} {n i : Nat} (h : n ≤ s.size) (hi : i < n) : bt (upTo s n) i = bt s i := by
  have := bt_ext s 0 n i h (by omega)
  rw [Nat.zero_add] at this
  exact this
/-- A line: no break in it, and it goes up to a break or the end. -/
structure Line (s : ByteArray) (p n : Nat) : Prop where
  le : n ≤ s.size
  no : ∀ i, p ≤ i → i < n → bt s i ≠ 10
  stop : n < s.size → bt s n = 10
theorem endL_no (s : ByteArray) : ∀ k i, k ≤ i → i < endL s k → bt s i ≠ 10 := by
  intro k
  revert k
  refine fwd_ind (P := pN) (s := s) ?_ ?_ ?_
  · intro k h i h1 h2
    unfold endL at h2
    rw [fwd_end h] at h2
    omega
  · intro k _ h i h1 h2
    unfold endL at h2
    rw [fwd_stop h] at h2
    omega
  · intro k h hp ih i h1 h2
    unfold endL at h2
    rw [fwd_step h hp] at h2
    by_cases hik : i = k
    · subst hik
      intro h10
      rw [h10] at hp
      cases hp
    · exact ih i (by omega) h2
theorem line_end (s : ByteArray) (k : Nat) (hk : k ≤ s.size) : Line s k (endL s k) where
  le := fwd_le pN s k hk
  no := endL_no s k
  stop h := by
    have := fwd_at pN s k h
    show bt s (fwd pN s k) = 10
    cases hh : (bt s (fwd pN s k) == 10) with
    | true => simpa using hh
    | false =>
      have h2 : (!(bt s (fwd pN s k) == 10)) = false := this
      rw [hh] at h2
      cases h2
theorem sg_go {s : ByteArray} {f i : Nat} {l : List Pc} {cur : ByteArray} (hi : i < s.size) (h : bt s i ≠ 10) : sgGo s (f + 1) i l cur =
    (if bt s i = 39 then (if i + 1 < s.size ∧ bt s (i + 1) = 39 then sgGo s f (i + 2) l (cur ++ b1 39) else (foldFlow (l ++ [(cur, false)]), i + 1, 0)) else sgGo s f (i + 1) l (cur ++ b1 (bt s i))) := by
  rw [sgGo, if_neg (by omega), if_neg h]
theorem db_go {s : ByteArray} {f i : Nat} {l : List Pc} {cur : ByteArray} {kp : Nat} (hi : i < s.size) (h : bt s i ≠ 10) : dbGo s (f + 1) i l cur kp =
    (if bt s i = 34 then (foldFlow (l ++ [(cur, false)]), i + 1, 0) else if bt s i = 92 then
      (if i + 1 < s.size ∧ bt s (i + 1) = 10 then
        (if 0 < markN s (i + 2) then (ByteArray.empty, i + 2, 4) else dbGo s f (wh s (i + 2)) (l ++ [(cutB cur cur.size, true)]) ByteArray.empty 0)
      else if (escAt s i).2 = 0 then (ByteArray.empty, i, 5)
      else dbGo s f (escAt s i).2 l (cur ++ (escAt s i).1) (cur ++ (escAt s i).1).size)
    else dbGo s f (i + 1) l (cur ++ b1 (bt s i)) kp) := by
  rw [dbGo, if_neg (by omega), if_neg h]
theorem sg_gt {s : ByteArray} {f i : Nat} {l : List Pc} {cur : ByteArray} (hi : i ≤ s.size) (h : (sgGo s f i l cur).2.2 = 0) : i < (sgGo s f i l cur).2.1 := by
  generalize hr : sgGo s f i l cur = r at h ⊢
  obtain ⟨t, x, c⟩ := r
  have h : c = 0 := h
  subst h
  exact (sg_in _ _ _ _ _ _ hi hr).1
theorem db_gt {s : ByteArray} {f i : Nat} {l : List Pc} {cur : ByteArray} {kp : Nat} (hi : i ≤ s.size) (h : (dbGo s f i l cur kp).2.2 = 0) : i < (dbGo s f i l cur kp).2.1 := by
  generalize hr : dbGo s f i l cur kp = r at h ⊢
  obtain ⟨t, x, c⟩ := r
  have h : c = 0 := h
  subst h
  exact (db_in _ _ _ _ _ _ _ hi hr).1
theorem sg_onl {s : ByteArray} {p n : Nat} (hl : Line s p n) : ∀ (f g i : Nat) (l : List Pc) (cur : ByteArray), p ≤ i → i ≤ n → s.size < f + i → n < g + i →
    ((sgGo (upTo s n) g i l cur).2.2 = 0 → sgGo s f i l cur = sgGo (upTo s n) g i l cur) ∧ ((sgGo s f i l cur).2.2 = 0 → (sgGo s f i l cur).2.1 ≤ n → sgGo (upTo s n) g i l cur = sgGo s f i l cur)
  | 0, g, i, l, cur, h1, h2, h3, h4 => by have := hl.le; omega
  | f + 1, 0, i, l, cur, h1, h2, h3, h4 => by omega
  | f + 1, g + 1, i, l, cur, h1, h2, h3, h4 => by
    have hz := upTo_size hl.le
    have hle := hl.le
    by_cases hi : i = n
    · subst hi
      constructor
      · intro h
        rw [sgGo, if_pos (by rw [hz]; exact Nat.le_refl _)] at h
        cases h
      · intro h h'
        exfalso
        have := sg_gt hle h
        omega
    · have hlt : i < n := by omega
      have hb := upTo_bt hle hlt
      have h10 := hl.no i h1 hlt
      rw [sg_go (s := s) (by omega) h10, sg_go (s := upTo s n) (by omega) (by rw [hb]; exact h10), hb]
      by_cases h39 : bt s i = 39
      · rw [if_pos h39, if_pos h39]
        by_cases hq : i + 1 < n ∧ bt s (i + 1) = 39
        · rw [if_pos (show i + 1 < s.size ∧ bt s (i + 1) = 39 from ⟨by omega, hq.2⟩), if_pos (show i + 1 < (upTo s n).size ∧ bt (upTo s n) (i + 1) = 39 from ⟨by rw [hz]; exact hq.1, by rw [upTo_bt hle hq.1]; exact hq.2⟩)]
          exact sg_onl hl f g (i + 2) _ _ (by omega) (by omega) (by omega) (by omega)
        · have e1 : ¬ (i + 1 < s.size ∧ bt s (i + 1) = 39) := by
            rintro ⟨a, b⟩
            by_cases hin : i + 1 < n
            · exact hq ⟨hin, b⟩
            · have hn : i + 1 = n := by omega
              have := hl.stop (by omega)
              rw [← hn, b] at this
              cases this
          have e2 : ¬ (i + 1 < (upTo s n).size ∧ bt (upTo s n) (i + 1) = 39) := by
            rintro ⟨a, b⟩
            rw [hz] at a
            rw [upTo_bt hle a] at b
            exact hq ⟨a, b⟩
          rw [if_neg e1, if_neg e2]
          exact ⟨fun _ => rfl, fun _ _ => rfl⟩
      · rw [if_neg h39, if_neg h39]
        exact sg_onl hl f g (i + 1) _ _ (by omega) (by omega) (by omega) (by omega)
theorem hex_line {s : ByteArray} {n : Nat} (hle : n ≤ s.size) : ∀ (c i x : Nat), i + c ≤ n → hexGo (upTo s n) c i x = hexGo s c i x
  | 0, _, _, _ => rfl
  | c + 1, i, x, h => by
    rw [hexGo, hexGo, if_neg (by rw [upTo_size hle]; omega), if_neg (by omega), upTo_bt hle (by omega)]
    split
    · rfl
    · exact hex_line hle c (i + 1) _ (by omega)
theorem escAt_on {s : ByteArray} {i : Nat} (h : i + 1 < s.size) (hb : bt s i = 92) : escAt s i = (match escT (bt s (i + 1)) with
    | some r => (rb (r : Int), i + 2)
    | none => if escN (bt s (i + 1)) = 0 then (ByteArray.empty, 0)
      else if rb (hexGo s (escN (bt s (i + 1))) (i + 2) 0) = ByteArray.empty then (ByteArray.empty, 0)
      else (rb (hexGo s (escN (bt s (i + 1))) (i + 2) 0), i + 2 + escN (bt s (i + 1)))) := by
  unfold escAt
  rw [if_neg (by omega)]
  cases escT (bt s (i + 1)) with
  | some r => rfl
  | none => rfl
theorem escAt_off {s : ByteArray} {i : Nat} (hb : bt s i ≠ 92) : escAt s i = (ByteArray.empty, 0) := by
  unfold escAt
  rw [if_pos (.inr hb)]
theorem esc_same {s : ByteArray} {n i : Nat} (hle : n ≤ s.size) (h2 : i + 1 < n) (hn : escT (bt s (i + 1)) = none → i + 2 + escN (bt s (i + 1)) ≤ n) : escAt (upTo s n) i = escAt s i := by
  have hz := upTo_size hle
  by_cases hb : bt s i = 92
  · rw [escAt_on (s := upTo s n) (by omega) (by rw [upTo_bt hle (by omega)]; exact hb), escAt_on (s := s) (by omega) hb, upTo_bt hle h2]
    generalize hx : bt s (i + 1) = x at *
    cases he : escT x with
    | some r => rfl
    | none =>
      have h3 := hex_line hle (escN x) (i + 2) 0 (hn he)
      rw [h3]
  · rw [escAt_off (s := upTo s n) (by rw [upTo_bt hle (by omega)]; exact hb), escAt_off hb]
/-- How far an escape reaches. -/
theorem esc_reach {s : ByteArray} {i x : Nat} {t : ByteArray} (h : escAt s i = (t, x)) (hx : x ≠ 0) : escT (bt s (i + 1)) = none → i + 2 + escN (bt s (i + 1)) = x := by
  intro hn
  have h1 := esc_in h hx
  by_cases hb : bt s i = 92
  · rw [escAt_on (s := s) (by omega) hb, hn] at h
    generalize rb (hexGo s (escN (bt s (i + 1))) (i + 2) 0) = u at h
    generalize escN (bt s (i + 1)) = m at *
    by_cases e0 : m = 0
    · rw [if_pos e0] at h
      dsimp only at h
      injection h with _ h
      omega
    · rw [if_neg e0] at h
      by_cases e1 : u = ByteArray.empty
      · rw [if_pos e1] at h
        dsimp only at h
        injection h with _ h
        omega
      · rw [if_neg e1] at h
        dsimp only at h
        injection h with _ h
  · rw [escAt_off hb] at h
    injection h with _ h
    omega
theorem esc_line1 {s : ByteArray} {n i x : Nat} {t : ByteArray} (hle : n ≤ s.size) (h : escAt (upTo s n) i = (t, x)) (hx : x ≠ 0) : escAt s i = (t, x) ∧ x ≤ n := by
  have h1 := esc_in h hx
  rw [upTo_size hle] at h1
  refine ⟨?_, h1.2.1⟩
  rw [← h]
  refine (esc_same hle (by omega) fun hn => ?_).symm
  have := esc_reach h hx (by rw [upTo_bt hle (by omega)]; exact hn)
  rw [upTo_bt hle (by omega)] at this
  omega
theorem esc_line2 {s : ByteArray} {n i x : Nat} {t : ByteArray} (hle : n ≤ s.size) (h : escAt s i = (t, x)) (hx : x ≠ 0) (hxn : x ≤ n) : escAt (upTo s n) i = (t, x) := by
  have h1 := esc_in h hx
  rw [← h]
  refine esc_same hle (by omega) fun hn => ?_
  have := esc_reach h hx hn
  omega
theorem db_onl {s : ByteArray} {p n : Nat} (hl : Line s p n) : ∀ (f g i : Nat) (l : List Pc) (cur : ByteArray) (kp : Nat), p ≤ i → i ≤ n → s.size < f + i → n < g + i →
    ((dbGo (upTo s n) g i l cur kp).2.2 = 0 → dbGo s f i l cur kp = dbGo (upTo s n) g i l cur kp) ∧ ((dbGo s f i l cur kp).2.2 = 0 → (dbGo s f i l cur kp).2.1 ≤ n → dbGo (upTo s n) g i l cur kp = dbGo s f i l cur kp)
  | 0, g, i, l, cur, kp, h1, h2, h3, h4 => by have := hl.le; omega
  | f + 1, 0, i, l, cur, kp, h1, h2, h3, h4 => by omega
  | f + 1, g + 1, i, l, cur, kp, h1, h2, h3, h4 => by
    have hz := upTo_size hl.le
    have hle := hl.le
    by_cases hi : i = n
    · subst hi
      constructor
      · intro h
        rw [dbGo, if_pos (by rw [hz]; exact Nat.le_refl _)] at h
        cases h
      · intro h h'
        exfalso
        have := db_gt hle h
        omega
    · have hlt : i < n := by omega
      have hb := upTo_bt hle hlt
      have h10 := hl.no i h1 hlt
      rw [db_go (s := s) (by omega) h10, db_go (s := upTo s n) (by omega) (by rw [hb]; exact h10), hb]
      by_cases h34 : bt s i = 34
      · rw [if_pos h34, if_pos h34]
        exact ⟨fun _ => rfl, fun _ _ => rfl⟩
      rw [if_neg h34, if_neg h34]
      by_cases h92 : bt s i = 92
      case neg =>
        rw [if_neg h92, if_neg h92]
        exact db_onl hl f g (i + 1) _ _ _ (by omega) (by omega) (by omega) (by omega)
      rw [if_pos h92, if_pos h92]
      have e2 : ¬ (i + 1 < (upTo s n).size ∧ bt (upTo s n) (i + 1) = 10) := by
        rintro ⟨a, b⟩
        rw [hz] at a
        rw [upTo_bt hle a] at b
        exact hl.no (i + 1) (by omega) a b
      rw [if_neg e2]
      by_cases hnl : i + 1 < s.size ∧ bt s (i + 1) = 10
      · have hn : n = i + 1 := by
          rcases Nat.lt_or_ge (i + 1) n with h | h
          · exact absurd hnl.2 (hl.no (i + 1) (by omega) h)
          · omega
        have ez : (escAt (upTo s n) i).2 = 0 := by
          rcases Nat.eq_zero_or_pos (escAt (upTo s n) i).2 with h | h
          · exact h
          · have := esc_in (s := upTo s n) (i := i) (t := (escAt (upTo s n) i).1) (x := (escAt (upTo s n) i).2) rfl (by omega)
            rw [hz] at this
            omega
        rw [if_pos hnl, if_pos ez]
        constructor
        · intro h
          cases h
        · intro h h'
          exfalso
          split at h
          · cases h
          · rename_i hm
            rw [if_neg hm] at h'
            have h5 : wh s (i + 2) ≤ s.size := fwd_le pW s (i + 2) (by omega)
            have h6 : i + 2 ≤ wh s (i + 2) := fwd_ge pW s (i + 2)
            have := db_gt h5 h
            omega
      · rw [if_neg hnl]
        by_cases hs0 : (escAt s i).2 = 0
        · have ez : (escAt (upTo s n) i).2 = 0 := by
            rcases Nat.eq_zero_or_pos (escAt (upTo s n) i).2 with h | h
            · exact h
            · have := esc_line1 (s := s) (n := n) (i := i) (t := (escAt (upTo s n) i).1) (x := (escAt (upTo s n) i).2) hle rfl (by omega)
              rw [this.1] at hs0
              omega
          rw [if_pos hs0, if_pos ez]
          exact ⟨fun _ => rfl, fun _ _ => rfl⟩
        · rw [if_neg hs0]
          have hin := esc_in (s := s) (i := i) (t := (escAt s i).1) (x := (escAt s i).2) rfl hs0
          by_cases hxn : (escAt s i).2 ≤ n
          · have e3 := esc_line2 (s := s) (n := n) (i := i) (t := (escAt s i).1) (x := (escAt s i).2) hle rfl hs0 hxn
            rw [e3, if_neg hs0]
            exact db_onl hl f g _ _ _ _ (by omega) hxn (by omega) (by omega)
          · have ez : (escAt (upTo s n) i).2 = 0 := by
              rcases Nat.eq_zero_or_pos (escAt (upTo s n) i).2 with h | h
              · exact h
              · have := esc_line1 (s := s) (n := n) (i := i) (t := (escAt (upTo s n) i).1) (x := (escAt (upTo s n) i).2) hle rfl (by omega)
                rw [this.1] at hxn
                exact absurd this.2 hxn
            rw [if_pos ez]
            constructor
            · intro h
              cases h
            · intro h h'
              exfalso
              have := db_gt hin.2.1 h
              omega
theorem sgAt_line {s : ByteArray} {k : Nat} (hk : k < s.size) (h39 : bt s k = 39) :
    ((sgAt (upTo s (endL s k)) k).2.2 = 0 → sgAt s k = sgAt (upTo s (endL s k)) k) ∧ ((sgAt s k).2.2 = 0 → (sgAt s k).2.1 ≤ endL s k → sgAt (upTo s (endL s k)) k = sgAt s k) := by
  have hl := line_end s k (by omega)
  have hlt : k < endL s k := by
    unfold endL
    rw [fwd_step hk (by rw [h39]; rfl)]
    have := fwd_ge pN s (k + 1)
    omega
  have a1 : sgAt s k = sgGo s (s.size + 1) (k + 1) [] ByteArray.empty := by unfold sgAt; rw [if_neg (by omega)]
  have a2 : sgAt (upTo s (endL s k)) k = sgGo (upTo s (endL s k)) (endL s k + 1) (k + 1) [] ByteArray.empty := by
    unfold sgAt
    rw [if_neg (by rw [upTo_size hl.le, upTo_bt hl.le hlt]; omega), upTo_size hl.le]
  rw [a1, a2]
  exact sg_onl hl _ _ (k + 1) [] ByteArray.empty (by omega) (by omega) (by omega) (by omega)
theorem dbAt_line {s : ByteArray} {k : Nat} (hk : k < s.size) (h34 : bt s k = 34) :
    ((dbAt (upTo s (endL s k)) k).2.2 = 0 → dbAt s k = dbAt (upTo s (endL s k)) k) ∧ ((dbAt s k).2.2 = 0 → (dbAt s k).2.1 ≤ endL s k → dbAt (upTo s (endL s k)) k = dbAt s k) := by
  have hl := line_end s k (by omega)
  have hlt : k < endL s k := by
    unfold endL
    rw [fwd_step hk (by rw [h34]; rfl)]
    have := fwd_ge pN s (k + 1)
    omega
  have a1 : dbAt s k = dbGo s (s.size + 1) (k + 1) [] ByteArray.empty 0 := by unfold dbAt; rw [if_neg (by omega)]
  have a2 : dbAt (upTo s (endL s k)) k = dbGo (upTo s (endL s k)) (endL s k + 1) (k + 1) [] ByteArray.empty 0 := by
    unfold dbAt
    rw [if_neg (by rw [upTo_size hl.le, upTo_bt hl.le hlt]; omega), upTo_size hl.le]
  rw [a1, a2]
  exact db_onl hl _ _ (k + 1) [] ByteArray.empty 0 (by omega) (by omega) (by omega) (by omega)
theorem sgAt_in {s : ByteArray} {k : Nat} (_ : k ≤ s.size) (h : (sgAt s k).2.2 = 0) : k < (sgAt s k).2.1 ∧ (sgAt s k).2.1 ≤ s.size := by
  have h' : sgAt s k = ((sgAt s k).1, (sgAt s k).2.1, 0) := by rw [← h]
  generalize (sgAt s k).1 = t at h'
  generalize (sgAt s k).2.1 = x at h'
  unfold sgAt at h'
  split at h'
  · injection h' with _ h'
    injection h' with _ h'
    cases h'
  · have := sg_in _ (k + 1) _ _ _ _ (by omega) h'
    omega
theorem dbAt_in {s : ByteArray} {k : Nat} (_ : k ≤ s.size) (h : (dbAt s k).2.2 = 0) : k < (dbAt s k).2.1 ∧ (dbAt s k).2.1 ≤ s.size := by
  have h' : dbAt s k = ((dbAt s k).1, (dbAt s k).2.1, 0) := by rw [← h]
  generalize (dbAt s k).1 = t at h'
  generalize (dbAt s k).2.1 = x at h'
  unfold dbAt at h'
  split at h'
  · injection h' with _ h'
    injection h' with _ h'
    cases h'
  · have := db_in _ (k + 1) _ _ _ _ _ (by omega) h'
    omega
/-- What keyEnd answers: the end of a scalar of one line, or that there is none. -/
def KeyI (s : ByteArray) (k A : Nat) (b : Bool) : Prop := (b = true → keyE qK s k = A ∧ k < A ∧ A ≤ s.size) ∧ (b = false → keyE qK s k = k)
theorem keyI_name {s : ByteArray} {k : Nat} (h42 : bt s k = 42) (_ : k ≤ s.size) : KeyI s k (nameE s k) (nameB s k) := by
  have e : keyE qK s k = (if nameB s k = true then nameE s k else k) := by unfold keyE; rw [if_pos h42]; rfl
  constructor
  · intro h
    rw [e, if_pos h]
    refine ⟨rfl, ?_⟩
    have hb := h
    unfold nameE
    rw [if_pos h]
    unfold nameB sgn at hb
    simp only [Bool.and_eq_true, decide_eq_true_eq] at hb
    have := str_le s (k + 1) (by omega)
    omega
  · intro h
    rw [e, h]
    rfl
theorem keyI_single {s : ByteArray} {k A C : Nat} {T : ByteArray} (hk : k < s.size) (h39 : bt s k = 39) (h : sgAt (upTo s (endL s k)) k = (T, A, C)) : KeyI s k A (decide (C = 0)) := by
  obtain ⟨l1, l2⟩ := sgAt_line hk h39
  have hle : endL s k ≤ s.size := fwd_le pN s k (by omega)
  have hge : k ≤ endL s k := fwd_ge pN s k
  have e : keyE qK s k = (if (sgAt s k).2.2 = 0 ∧ (sgAt s k).2.1 ≤ endL s k then (sgAt s k).2.1 else k) := by unfold keyE; rw [if_neg (by omega), if_pos h39]; rfl
  constructor
  · intro hC
    have hC : C = 0 := by simpa using hC
    have h0 : (sgAt (upTo s (endL s k)) k).2.2 = 0 := by rw [h]; exact hC
    have hin := sgAt_in (by rw [upTo_size hle]; exact hge) h0
    rw [upTo_size hle] at hin
    have h1 := l1 h0
    rw [e, h1, h] at *
    rw [if_pos ⟨h0, hin.2⟩]
    have h2 : A ≤ endL s k := hin.2
    have h3 : k < A := hin.1
    exact ⟨rfl, h3, by omega⟩
  · intro hC
    have hC : C ≠ 0 := by simpa using hC
    rw [e, if_neg]
    rintro ⟨a, b⟩
    have := l2 a b
    rw [h] at this
    rw [← this] at a
    exact hC a
theorem keyI_double {s : ByteArray} {k A C : Nat} {T : ByteArray} (hk : k < s.size) (h34 : bt s k = 34) (h : dbAt (upTo s (endL s k)) k = (T, A, C)) : KeyI s k A (decide (C = 0)) := by
  obtain ⟨l1, l2⟩ := dbAt_line hk h34
  have hle : endL s k ≤ s.size := fwd_le pN s k (by omega)
  have hge : k ≤ endL s k := fwd_ge pN s k
  have e : keyE qK s k = (if (dbAt s k).2.2 = 0 ∧ (dbAt s k).2.1 ≤ endL s k then (dbAt s k).2.1 else k) := by unfold keyE; rw [if_neg (by omega), if_neg (by omega), if_pos h34]; rfl
  constructor
  · intro hC
    have hC : C = 0 := by simpa using hC
    have h0 : (dbAt (upTo s (endL s k)) k).2.2 = 0 := by rw [h]; exact hC
    have hin := dbAt_in (by rw [upTo_size hle]; exact hge) h0
    rw [upTo_size hle] at hin
    have h1 := l1 h0
    rw [e, h1, h] at *
    rw [if_pos ⟨h0, hin.2⟩]
    have h2 : A ≤ endL s k := hin.2
    have h3 : k < A := hin.1
    exact ⟨rfl, h3, by omega⟩
  · intro hC
    have hC : C ≠ 0 := by simpa using hC
    rw [e, if_neg]
    rintro ⟨a, b⟩
    have := l2 a b
    rw [h] at this
    rw [← this] at a
    exact hC a
theorem keyI_plain {s : ByteArray} {k : Nat} (h42 : bt s k ≠ 42) (h39 : bt s k ≠ 39) (h34 : bt s k ≠ 34) (hf : plF s k false = true) (hk : k ≤ s.size) : KeyI s k (plE s k false) true := by
  have e : keyE qK s k = (if plF s k false = true then plE s k false else k) := by unfold keyE; rw [if_neg h42, if_neg h39, if_neg h34]; rfl
  have h1 := plE_gt hf
  have h2 := plE_le s k false hk
  refine ⟨fun _ => ⟨by rw [e, if_pos hf], h1.1, h2⟩, fun h => ?_⟩
  cases h
theorem keyI_none {s : ByteArray} {k : Nat} (h42 : bt s k ≠ 42) (h39 : bt s k ≠ 39) (h34 : bt s k ≠ 34) (hf : plF s k false = false) : KeyI s k 0 false := by
  have e : keyE qK s k = (if plF s k false = true then plE s k false else k) := by unfold keyE; rw [if_neg h42, if_neg h39, if_neg h34]; rfl
  refine ⟨fun h => ?_, fun _ => ?_⟩
  · cases h
  · rw [e, hf]
    rfl
end Go.Proofs.YtjpcmmfmdoglkalGreatDoor
