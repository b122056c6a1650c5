/- The specification's l17Word and l17Quote. -/
import Derived.Test.YtmbbmibkjnlkkaaDoorPqt
import Derived.Test.YtmbbmibkjnlkkaaDoorPec
import Derived.OwnWalk
namespace Go.Proofs.YtmbbmibkjnlkkaaDoor
open Go.ChangeShapes Go.WideShapes Go.ChangeAt Go.RowKit
theorem ret_bQ {a b : Bool} (h : a = b) : Ending.returned (.bool a) = .returned (.bool b) := by rw [h]
theorem ret_sQ {a b : ByteArray} (h : a = b) : Ending.returned (.string a) = .returned (.string b) := by rw [h]
/-- What is left to be asked at the place k. -/
def restW (s : ByteArray) (k : Nat) : Bool := if k = 0 then wordT s else decide (fwd pKy s k = s.size)
def ltr (x : Nat) : Bool := decide ((97 ≤ x ∧ x ≤ 122) ∨ (65 ≤ x ∧ x ≤ 90) ∨ x = 95 ∨ x = 45)
theorem ky_split (x : Nat) : pKy x = (ltr x || pDg x) := by
  rw [Bool.eq_iff_iff]
  unfold pKy pHn ltr pDg
  simp
  omega
theorem dg_no {x : Nat} (h : ltr x = true) : pDg x = false := by
  rw [← Bool.not_eq_true]
  unfold ltr at h
  unfold pDg
  simp at h ⊢
  omega
theorem restW_go {s : ByteArray} {k : Nat} (hk : k < s.size) (h : ltr (bt s k) = true ∨ (pDg (bt s k) = true ∧ k ≠ 0)) : restW s (k + 1) = restW s k := by
  have hp : pKy (bt s k) = true := by rw [ky_split]; rcases h with h | h; rw [h]; rfl; rw [h.1, Bool.or_true]
  unfold restW
  rw [if_neg (by omega)]
  by_cases h0 : k = 0
  · subst h0
    rw [if_pos rfl]
    unfold wordT
    have hl : ltr (bt s 0) = true := h.resolve_right (fun e => e.2 rfl)
    rw [decide_eq_true hk, dg_no hl, fwd_step hk hp]
    rfl
  · rw [if_neg h0, fwd_step hk hp]
theorem restW_stop {s : ByteArray} {k : Nat} (hk : k < s.size) (h : ltr (bt s k) = false) (h2 : pDg (bt s k) = false ∨ k = 0) : restW s k = false := by
  unfold restW
  by_cases h0 : k = 0
  · subst h0
    rw [if_pos rfl]
    unfold wordT
    cases hd : pDg (bt s 0) with
    | true => simp
    | false =>
      have hp : pKy (bt s 0) = false := by rw [ky_split, h, hd]; rfl
      rw [fwd_stop hp, decide_eq_false (show ¬ 0 = s.size by omega)]
      simp
  · have hd := h2.resolve_right h0
    have hp : pKy (bt s k) = false := by rw [ky_split, h, hd]; rfl
    rw [if_neg h0, fwd_stop hp, decide_eq_false (by omega)]
theorem restW_end (s : ByteArray) : restW s s.size = !(decide (s.size = 0)) := by
  unfold restW
  by_cases h0 : s.size = 0
  · rw [if_pos h0]
    unfold wordT
    rw [decide_eq_false (show ¬ 0 < s.size by omega), decide_eq_true h0]
    rfl
  · rw [if_neg h0, fwd_end (Nat.le_refl _), decide_eq_true rfl, decide_eq_false h0]
    rfl
theorem word_tree (x : Nat) : (97 ≤ x ∧ x ≤ 122) ∨ 122 < x ∨ (65 ≤ x ∧ x ≤ 90) ∨ (x = 95) ∨ (90 < x ∧ x < 97 ∧ x ≠ 95) ∨ (48 ≤ x ∧ x ≤ 57) ∨ (57 < x ∧ x < 65) ∨ x = 45 ∨ (x < 48 ∧ x ≠ 45) := by omega
set_option maxRecDepth 100000 in
set_option maxHeartbeats 16000000 in
theorem spec_word (s : ByteArray) (w : World) (hs : s.size ≤ 1048576) :
    Calls Tryd.prog 35 #[.string s] w fun e w' => e = .returned (.bool (wordT s)) ∧ w' = w := by
  obtain ⟨o, ho⟩ : ∃ o, wordT s = o := ⟨_, rfl⟩
  have HO : Hid (restW s 0 = o) := ho
  rw [ho]
  have sI : (s.size : Int) ≤ 1048576 := by omega
  clear ho hs
  go_enter Tryd.func35, Tryd.ntmps35
  go_wp2_with fail
  go_loopw [3] (fun kv wr => ∃ k : Nat, kv = .int .i64 (k : Int) ∧ k ≤ s.size ∧ Hid (restW s k = o ∧ wr = w)) (fun kv _ => s.size - (intOf kv).toNat)
  case atStart => exact ⟨0, rfl, Nat.zero_le _, HO.out, rfl⟩
  case round =>
    obtain ⟨k, rfl, hk, HRW⟩ := hrel
    have HR : Hid (restW s k = o) := HRW.out.1
    obtain rfl := HRW.out.2
    clear HO HRW
    by_cases hlt : k < s.size
    case neg =>
      obtain rfl : k = s.size := by omega
      have hlt' : ¬ (s.size : Int) < (s.size : Int) := by omega
      have HE : Hid ((!(decide (s.size = 0))) = o) := by show _ = _; rw [← restW_end, HR.out]
      have hsz : (s.toList = []) ↔ s.size = 0 := by
        rw [ByteArray.toList_eq]
        exact ⟨fun e => by show s.data.size = 0; rw [← Array.length_toList, e]; rfl, fun e => List.eq_nil_of_length_eq_zero (by rw [Array.length_toList]; exact e)⟩
      clear hlt HR
      by_cases h0 : s.size = 0
      · have t1 : (s.toList == []) = true := by rw [hsz.2 h0]; rfl
        have t2 : (s.toList != []) = false := by rw [bne, t1]; rfl
        have HE2 : Hid (false = o) := by show _ = _; rw [← HE.out, decide_eq_true h0]; rfl
        clear HE hsz h0
        go_wp2_with fail
        go_ret
        exact ⟨ret_bQ HE2.out, rfl⟩
      · have t1 : (s.toList == []) = false := by rw [beq_eq_false_iff_ne]; exact fun e => h0 (hsz.1 e)
        have t2 : (s.toList != []) = true := by rw [bne, t1]; rfl
        have HE2 : Hid (true = o) := by show _ = _; rw [← HE.out, decide_eq_false h0]; rfl
        clear HE hsz h0
        go_wp2_with fail
        go_ret
        exact ⟨ret_bQ HE2.out, rfl⟩
    have hlt' : (k : Int) < (s.size : Int) := by omega
    have HLT : Hid (k < s.size) := hlt
    have hb := bt_get s k hlt
    obtain ⟨x, hx⟩ : ∃ x, (s[k]'hlt).toNat = x := ⟨_, rfl⟩
    have HX : Hid (bt s k = x) := by show _ = _; rw [← hb, hx]
    have HGO : Hid ((ltr x = true ∨ (pDg x = true ∧ k ≠ 0)) → restW s (k + 1) = o) := fun h => by rw [restW_go HLT.out (by rw [HX.out]; exact h), HR.out]
    have HST : Hid (ltr x = false → (pDg x = false ∨ k = 0) → false = o) := fun h1 h2 => by rw [← HR.out, restW_stop HLT.out (by rw [HX.out]; exact h1) (by rw [HX.out]; exact h2)]
    clear hb HX HR hk
    rcases word_tree x with ⟨h1, h2⟩ | h1 | ⟨h1, h2⟩ | h1 | ⟨h1, h2, h3⟩ | ⟨h1, h2⟩ | ⟨h1, h2⟩ | h1 | ⟨h1, h2⟩
    · have HN : Hid (restW s (k + 1) = o ∧ k < s.size) := ⟨HGO.out (.inl (by unfold ltr; simp; omega)), HLT.out⟩
      have c_ge97 : ((97 : Int) ≤ (x : Int)) := by omega
      have c_le122 : ((x : Int) ≤ 122) := by omega
      have c_ge65 : ((65 : Int) ≤ (x : Int)) := by omega
      have c_le90 : ¬ ((x : Int) ≤ 90) := by omega
      have c_lt48 : ¬ ((x : Int) < 48) := by omega
      have c_gt57 : ((57 : Int) < (x : Int)) := by omega
      have c_95 : ((x : Int) == 95) = false := by rw [beq_eq_false_iff_ne]; omega
      have c_45 : ((x : Int) == 45) = false := by rw [beq_eq_false_iff_ne]; omega
      clear HGO HST
      go_wp2_with fail
      go_roundw
      case rel => exact ⟨k + 1, by go_num, HN.out.2, HN.out.1, by first | trivial | rfl⟩
      case measure => have := HN.out.2; simp [intOf]; omega
    · have HN : Hid (false = o) := HST.out (by rw [← Bool.not_eq_true]; unfold ltr; simp; omega) (.inl (by rw [← Bool.not_eq_true]; unfold pDg; simp; omega))
      have c_ge97 : ((97 : Int) ≤ (x : Int)) := by omega
      have c_le122 : ¬ ((x : Int) ≤ 122) := by omega
      have c_ge65 : ((65 : Int) ≤ (x : Int)) := by omega
      have c_le90 : ¬ ((x : Int) ≤ 90) := by omega
      have c_lt48 : ¬ ((x : Int) < 48) := by omega
      have c_gt57 : ((57 : Int) < (x : Int)) := by omega
      have c_95 : ((x : Int) == 95) = false := by rw [beq_eq_false_iff_ne]; omega
      have c_45 : ((x : Int) == 45) = false := by rw [beq_eq_false_iff_ne]; omega
      clear HGO HST
      go_wp2_with fail
      go_ret
      exact ⟨ret_bQ HN.out, rfl⟩
    · have HN : Hid (restW s (k + 1) = o ∧ k < s.size) := ⟨HGO.out (.inl (by unfold ltr; simp; omega)), HLT.out⟩
      have c_ge97 : ¬ ((97 : Int) ≤ (x : Int)) := by omega
      have c_le122 : ((x : Int) ≤ 122) := by omega
      have c_ge65 : ((65 : Int) ≤ (x : Int)) := by omega
      have c_le90 : ((x : Int) ≤ 90) := by omega
      have c_lt48 : ¬ ((x : Int) < 48) := by omega
      have c_gt57 : ((57 : Int) < (x : Int)) := by omega
      have c_95 : ((x : Int) == 95) = false := by rw [beq_eq_false_iff_ne]; omega
      have c_45 : ((x : Int) == 45) = false := by rw [beq_eq_false_iff_ne]; omega
      clear HGO HST
      go_wp2_with fail
      go_roundw
      case rel => exact ⟨k + 1, by go_num, HN.out.2, HN.out.1, by first | trivial | rfl⟩
      case measure => have := HN.out.2; simp [intOf]; omega
    · have HN : Hid (restW s (k + 1) = o ∧ k < s.size) := ⟨HGO.out (.inl (by unfold ltr; simp; omega)), HLT.out⟩
      have c_ge97 : ¬ ((97 : Int) ≤ (x : Int)) := by omega
      have c_le122 : ((x : Int) ≤ 122) := by omega
      have c_ge65 : ((65 : Int) ≤ (x : Int)) := by omega
      have c_le90 : ¬ ((x : Int) ≤ 90) := by omega
      have c_lt48 : ¬ ((x : Int) < 48) := by omega
      have c_gt57 : ((57 : Int) < (x : Int)) := by omega
      have c_95 : ((x : Int) == 95) = true := by rw [beq_iff_eq]; omega
      have c_45 : ((x : Int) == 45) = false := by rw [beq_eq_false_iff_ne]; omega
      clear HGO HST
      go_wp2_with fail
      go_roundw
      case rel => exact ⟨k + 1, by go_num, HN.out.2, HN.out.1, by first | trivial | rfl⟩
      case measure => have := HN.out.2; simp [intOf]; omega
    · have HN : Hid (false = o) := HST.out (by rw [← Bool.not_eq_true]; unfold ltr; simp; omega) (.inl (by rw [← Bool.not_eq_true]; unfold pDg; simp; omega))
      have c_ge97 : ¬ ((97 : Int) ≤ (x : Int)) := by omega
      have c_le122 : ((x : Int) ≤ 122) := by omega
      have c_ge65 : ((65 : Int) ≤ (x : Int)) := by omega
      have c_le90 : ¬ ((x : Int) ≤ 90) := by omega
      have c_lt48 : ¬ ((x : Int) < 48) := by omega
      have c_gt57 : ((57 : Int) < (x : Int)) := by omega
      have c_95 : ((x : Int) == 95) = false := by rw [beq_eq_false_iff_ne]; omega
      have c_45 : ((x : Int) == 45) = false := by rw [beq_eq_false_iff_ne]; omega
      clear HGO HST
      go_wp2_with fail
      go_ret
      exact ⟨ret_bQ HN.out, rfl⟩
    · by_cases h0 : k = 0
      · have HN : Hid (false = o) := HST.out (by rw [← Bool.not_eq_true]; unfold ltr; simp; omega) (.inr h0)
        have c_ge97 : ¬ ((97 : Int) ≤ (x : Int)) := by omega
        have c_le122 : ((x : Int) ≤ 122) := by omega
        have c_ge65 : ¬ ((65 : Int) ≤ (x : Int)) := by omega
        have c_le90 : ((x : Int) ≤ 90) := by omega
        have c_lt48 : ¬ ((x : Int) < 48) := by omega
        have c_gt57 : ¬ ((57 : Int) < (x : Int)) := by omega
        have c_95 : ((x : Int) == 95) = false := by rw [beq_eq_false_iff_ne]; omega
        have c_45 : ((x : Int) == 45) = false := by rw [beq_eq_false_iff_ne]; omega
        subst h0
        clear HGO HST
        go_wp2_with fail
        go_ret
        exact ⟨ret_bQ HN.out, rfl⟩
      · have HN : Hid (restW s (k + 1) = o ∧ k < s.size) := ⟨HGO.out (.inr ⟨by unfold pDg; simp; omega, h0⟩), HLT.out⟩
        have c_ge97 : ¬ ((97 : Int) ≤ (x : Int)) := by omega
        have c_le122 : ((x : Int) ≤ 122) := by omega
        have c_ge65 : ¬ ((65 : Int) ≤ (x : Int)) := by omega
        have c_le90 : ((x : Int) ≤ 90) := by omega
        have c_lt48 : ¬ ((x : Int) < 48) := by omega
        have c_gt57 : ¬ ((57 : Int) < (x : Int)) := by omega
        have c_95 : ((x : Int) == 95) = false := by rw [beq_eq_false_iff_ne]; omega
        have c_45 : ((x : Int) == 45) = false := by rw [beq_eq_false_iff_ne]; omega
        have t0 : ((k : Int) == 0) = false := by rw [beq_eq_false_iff_ne]; omega
        clear HGO HST
        go_wp2_with fail
        go_roundw
        case rel => exact ⟨k + 1, by go_num, HN.out.2, HN.out.1, by first | trivial | rfl⟩
        case measure => have := HN.out.2; simp [intOf]; omega
    · have HN : Hid (false = o) := HST.out (by rw [← Bool.not_eq_true]; unfold ltr; simp; omega) (.inl (by rw [← Bool.not_eq_true]; unfold pDg; simp; omega))
      have c_ge97 : ¬ ((97 : Int) ≤ (x : Int)) := by omega
      have c_le122 : ((x : Int) ≤ 122) := by omega
      have c_ge65 : ¬ ((65 : Int) ≤ (x : Int)) := by omega
      have c_le90 : ((x : Int) ≤ 90) := by omega
      have c_lt48 : ¬ ((x : Int) < 48) := by omega
      have c_gt57 : ((57 : Int) < (x : Int)) := by omega
      have c_95 : ((x : Int) == 95) = false := by rw [beq_eq_false_iff_ne]; omega
      have c_45 : ((x : Int) == 45) = false := by rw [beq_eq_false_iff_ne]; omega
      clear HGO HST
      go_wp2_with fail
      go_ret
      exact ⟨ret_bQ HN.out, rfl⟩
    · have HN : Hid (restW s (k + 1) = o ∧ k < s.size) := ⟨HGO.out (.inl (by unfold ltr; simp; omega)), HLT.out⟩
      have c_ge97 : ¬ ((97 : Int) ≤ (x : Int)) := by omega
      have c_le122 : ((x : Int) ≤ 122) := by omega
      have c_ge65 : ¬ ((65 : Int) ≤ (x : Int)) := by omega
      have c_le90 : ((x : Int) ≤ 90) := by omega
      have c_lt48 : ((x : Int) < 48) := by omega
      have c_gt57 : ¬ ((57 : Int) < (x : Int)) := by omega
      have c_95 : ((x : Int) == 95) = false := by rw [beq_eq_false_iff_ne]; omega
      have c_45 : ((x : Int) == 45) = true := by rw [beq_iff_eq]; omega
      clear HGO HST
      go_wp2_with fail
      go_roundw
      case rel => exact ⟨k + 1, by go_num, HN.out.2, HN.out.1, by first | trivial | rfl⟩
      case measure => have := HN.out.2; simp [intOf]; omega
    · have HN : Hid (false = o) := HST.out (by rw [← Bool.not_eq_true]; unfold ltr; simp; omega) (.inl (by rw [← Bool.not_eq_true]; unfold pDg; simp; omega))
      have c_ge97 : ¬ ((97 : Int) ≤ (x : Int)) := by omega
      have c_le122 : ((x : Int) ≤ 122) := by omega
      have c_ge65 : ¬ ((65 : Int) ≤ (x : Int)) := by omega
      have c_le90 : ((x : Int) ≤ 90) := by omega
      have c_lt48 : ((x : Int) < 48) := by omega
      have c_gt57 : ¬ ((57 : Int) < (x : Int)) := by omega
      have c_95 : ((x : Int) == 95) = false := by rw [beq_eq_false_iff_ne]; omega
      have c_45 : ((x : Int) == 45) = false := by rw [beq_eq_false_iff_ne]; omega
      clear HGO HST
      go_wp2_with fail
      go_ret
      exact ⟨ret_bQ HN.out, rfl⟩
/-- What is written of the first bytes, in quotes. -/
def qTo (s : ByteArray) : Nat → List Nat
  | 0 => [39]
  | i + 1 => qTo s i ++ (if bt s i = 39 then [39, 39] else [bt s i])
theorem qTo_len (s : ByteArray) : ∀ i, (qTo s i).length ≤ 2 * i + 1
  | 0 => by show 1 ≤ _; omega
  | i + 1 => by
    have := qTo_len s i
    unfold qTo
    rw [List.length_append]
    split <;> simp only [List.length_cons, List.length_nil] <;> omega
theorem dbl_app : ∀ (a : List UInt8) (c : UInt8), dbl (a ++ [c]) = dbl a ++ (if c = 39 then [39, 39] else [c])
  | [], c => by
    show dbl [c] = _
    unfold dbl
    by_cases h : c = 39
    · rw [if_pos h]; simp [h, dbl]
    · rw [if_neg h]; simp [h, dbl]
  | x :: t, c => by
    have ih := dbl_app t c
    rw [List.cons_append]
    unfold dbl
    rw [ih]
    split <;> simp
theorem qTo_dbl (s : ByteArray) : ∀ i, i ≤ s.size → qTo s i = 39 :: (dbl (s.data.toList.take i)).map UInt8.toNat
  | 0, _ => rfl
  | i + 1, h => by
    have ih := qTo_dbl s i (by omega)
    have hs : s.data.toList.length = s.size := Array.length_toList
    obtain ⟨c, hc⟩ : ∃ c, s.data.toList[i]? = some c := ⟨_, List.getElem?_eq_getElem (by omega)⟩
    have hb : bt s i = c.toNat := by
      unfold bt
      have : s.data[i]! = c := by
        rw [getElem!_pos s.data i (by have : s.data.size = s.size := rfl; omega)]
        have h2 := (List.getElem?_eq_some_iff.1 hc).2
        simpa using h2
      rw [this]
    rw [List.take_add_one, hc]
    unfold qTo
    rw [ih, hb]
    show _ = 39 :: (dbl (s.data.toList.take i ++ [c])).map UInt8.toNat
    rw [dbl_app, List.map_append, List.cons_append]
    by_cases h39 : c = 39
    · subst h39
      rfl
    · have h40 : ¬ c.toNat = 39 := fun e => h39 (UInt8.toNat_inj.1 e)
      rw [if_neg h39, if_neg h40]
      rfl
theorem ofNat_map : ∀ l : List UInt8, (l.map UInt8.toNat).map (fun n : Nat => UInt8.ofNat ((n : Int).toNat)) = l
  | [] => rfl
  | c :: t => by
    rw [List.map_cons, List.map_cons, ofNat_map t]
    simp
theorem quote_nums (s : ByteArray) : strN (qTo s s.size ++ [39]) = quoteT s := by
  have hs : s.data.toList.length = s.size := Array.length_toList
  rw [qTo_dbl s s.size (Nat.le_refl _), ← hs, List.take_length]
  unfold strN strOfNums quoteT q39
  have e : ∀ l : List Nat, (l.map (fun (n : Nat) => (n : Int))).map (fun n => UInt8.ofNat n.toNat) = l.map (fun n : Nat => UInt8.ofNat ((n : Int).toNat)) := fun l => by rw [List.map_map]; rfl
  rw [e, List.map_append, List.map_cons, ofNat_map]
  apply ByteArray.ext
  apply Array.ext'
  rw [ByteArray.data_append, ByteArray.data_append]
  simp
set_option maxRecDepth 100000 in
set_option maxHeartbeats 16000000 in
theorem spec_quote (s : ByteArray) (w : World) (hs : s.size ≤ 1048576) :
    Calls Tryd.prog 36 #[.string s] w fun e w' => e = .returned (.string (quoteT s)) ∧ Below w.heap.size w w' := by
  obtain ⟨o, ho⟩ : ∃ o, quoteT s = o := ⟨_, rfl⟩
  have HT : Hid (strN (qTo s s.size ++ [39]) = o) := by show _ = _; rw [quote_nums, ho]
  rw [ho]
  have HO0 : Hid (OwB w.heap.size (qTo s 0) (.slice (some ⟨w.heap.size, 0, none⟩) 1 1) (w.alloc (.cells #[.int .u8 39] 5)) ∧ Below w.heap.size w (w.alloc (.cells #[.int .u8 39] 5))) := by
    refine ⟨⟨rfl, .inr ⟨w.heap.size, 1, _, rfl, Nat.le_refl _, new_block w _, Nat.le_refl _, by unfold maxLen; omega, rfl, rfl⟩⟩, (Below.refl _ w).alloc (Nat.le_refl _) _⟩
  have sI : (s.size : Int) ≤ 1048576 := by omega
  have HS : Hid (s.size ≤ 1048576) := hs
  clear ho hs
  go_enter Tryd.func36, Tryd.ntmps36
  go_wp2_with fail
  go_loopw [3, 4] (fun ov iv wr => ∃ (i : Nat) (oa : Option Addr) (on oc : Nat), ov = .slice oa on oc ∧ iv = .int .i64 (i : Int) ∧ i ≤ s.size ∧ Hid (OwB w.heap.size (qTo s i) (.slice oa on oc) wr ∧ Below w.heap.size w wr)) (fun _ iv _ => s.size - (intOf iv).toNat)
  case atStart => exact ⟨0, _, _, _, rfl, rfl, Nat.zero_le _, HO0.out⟩
  case round =>
    obtain ⟨i, oa, on, oc, rfl, rfl, hi, HO⟩ := hrel
    clear HO0
    have hql := qTo_len s i
    by_cases hlt : i < s.size
    case neg =>
      obtain rfl : i = s.size := by omega
      have hlt' : ¬ (s.size : Int) < (s.size : Int) := by omega
      obtain ⟨v2, w2, hrun, ⟨u0, u1, u2, rfl⟩, hO2, hB2, _⟩ := HO.out.1.put HO.out.2.size (by have := HS.out; omega) [39] (by simp) 22
      have hrun' : (Builtin.append_ #[22, 22] 22 #[.slice oa on oc, .slice (some ⟨wr.heap.size, 0, none⟩) 1 1]).run Tryd.prog (wr.alloc (.cells #[.int .u8 39] 5)) = .ok (.slice u0 u1 u2) w2 := hrun
      have hcv := hO2.conv
      rw [HT.out] at hcv
      have HB : Hid (Below w.heap.size w w2) := HO.out.2.trans hB2
      clear hrun hO2 hB2 HO hql hlt hi HT
      go_wp2_with (at_builtin; refine append_run rfl _ _ 22 rfl _ _ rfl rfl _ w2 hrun' ?_)
      go_ret
      exact ⟨rfl, HB.out⟩
    have hlt' : (i : Int) < (s.size : Int) := by omega
    have hb := bt_get s i hlt
    obtain ⟨x, hx⟩ : ∃ x, (s[i]'hlt).toNat = x := ⟨_, rfl⟩
    have HX : Hid (qTo s (i + 1) = qTo s i ++ (if x = 39 then [39, 39] else [x]) ∧ i < s.size) := ⟨by rw [← hx, hb]; rfl, hlt⟩
    clear hb hi
    by_cases h39 : x = 39
    · have t39 : ((x : Int) == 39) = true := by rw [beq_iff_eq]; omega
      obtain ⟨v2, w2, hrun, ⟨u0, u1, u2, rfl⟩, hO2, hB2, _⟩ := HO.out.1.put HO.out.2.size (by have := HS.out; omega) [39] (by simp) 22
      have hrun' : (Builtin.append_ #[22, 22] 22 #[.slice oa on oc, .slice (some ⟨wr.heap.size, 0, none⟩) 1 1]).run Tryd.prog (wr.alloc (.cells #[.int .u8 39] 5)) = .ok (.slice u0 u1 u2) w2 := hrun
      obtain ⟨v3, w3, hrun3, ⟨y0, y1, y2, rfl⟩, hO3, hB3, _⟩ := hO2.put (Nat.le_trans HO.out.2.size hB2.size) (by rw [List.length_append]; have := HS.out; simp; omega) [x] (by simp) 22
      have hrun3' : (Builtin.append_ #[22, 22] 22 #[.slice u0 u1 u2, .slice (some ⟨w2.heap.size, 0, none⟩) 1 1]).run Tryd.prog (w2.alloc (.cells #[.int .u8 (x : Int)] 5)) = .ok (.slice y0 y1 y2) w3 := hrun3
      have HO3 : Hid (OwB w.heap.size (qTo s (i + 1)) (.slice y0 y1 y2) w3 ∧ Below w.heap.size w w3 ∧ i < s.size) := by
        refine ⟨?_, (HO.out.2.trans hB2).trans hB3, HX.out.2⟩
        rw [HX.out.1, if_pos h39]
        rw [h39, List.append_assoc] at hO3
        exact hO3
      clear hrun hrun3 hO2 hO3 hB2 hB3 HO HX hql h39
      go_wp2_with (at_builtin; first | (refine append_run rfl (.tmp 16) (.tmp 17) 22 rfl _ _ rfl rfl _ w2 hrun' ?_) | (refine append_run rfl (.tmp 19) (.tmp 23) 22 rfl _ _ rfl rfl _ w3 hrun3' ?_))
      go_roundw
      case rel => exact ⟨i + 1, _, _, _, rfl, by go_num, HO3.out.2.2, HO3.out.1, HO3.out.2.1⟩
      case measure => have := HO3.out.2.2; simp [intOf]; omega
    · have t39 : ((x : Int) == 39) = false := by rw [beq_eq_false_iff_ne]; omega
      obtain ⟨v3, w3, hrun3, ⟨y0, y1, y2, rfl⟩, hO3, hB3, _⟩ := HO.out.1.put HO.out.2.size (by have := HS.out; omega) [x] (by simp) 22
      have hrun3' : (Builtin.append_ #[22, 22] 22 #[.slice oa on oc, .slice (some ⟨wr.heap.size, 0, none⟩) 1 1]).run Tryd.prog (wr.alloc (.cells #[.int .u8 (x : Int)] 5)) = .ok (.slice y0 y1 y2) w3 := hrun3
      have HO3 : Hid (OwB w.heap.size (qTo s (i + 1)) (.slice y0 y1 y2) w3 ∧ Below w.heap.size w w3 ∧ i < s.size) := by
        refine ⟨?_, HO.out.2.trans hB3, HX.out.2⟩
        rw [HX.out.1, if_neg h39]
        exact hO3
      clear hrun3 hO3 hB3 HO HX hql h39
      go_wp2_with (at_builtin; refine append_run rfl (.tmp 19) (.tmp 23) 22 rfl _ _ rfl rfl _ w3 hrun3' ?_)
      go_roundw
      case rel => exact ⟨i + 1, _, _, _, rfl, by go_num, HO3.out.2.2, HO3.out.1, HO3.out.2.1⟩
      case measure => have := HO3.out.2.2; simp [intOf]; omega
end Go.Proofs.YtmbbmibkjnlkkaaDoor
