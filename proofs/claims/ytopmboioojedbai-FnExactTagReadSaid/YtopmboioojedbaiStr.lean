/- spec.TagRead answers what a tag stands for. -/
import Derived.Test.YtopmboioojedbaiShd
import Derived.Test.YtopmboioojedbaiBk
namespace Go.Proofs.Ytopmboioojedbai
open Go.ChangeShapes Go.WideShapes Go.ChangeAt Go.RowKit Go.Shelf Go.Maps
def pfx (hs : List Hn) (x : ByteArray) : ByteArray := (look hs x).getD ByteArray.empty
theorem ret_str {a b : ByteArray} (h : a = b) : Ending.returned (.string a) = .returned (.string b) := by rw [h]
set_option maxHeartbeats 2000000 in
theorem prefix_any (x : ByteArray) (v : Value) (hs : List Hn) (w : World) (t : ByteArray) (hV : SlH w v hs) (hl : hs.length ≤ 1073741824) (ht : pfx hs x = t) :
    Calls Try.prog 38 #[.string x, v] w fun e w' => e = .returned (.string t) ∧ Below w.heap.size w w' := by
  obtain ⟨a, c, rfl⟩ := hV.sl
  have HV : Hid (SlH w (.slice a hs.length c) hs) := hV
  have HT : Hid (pfx hs x = t) := ht
  clear hV ht
  go_enter Try.func38, Try.ntmps38
  go_wp2_with fail
  go_loopw [9] (fun i wr => ∃ k : Nat, k ≤ hs.length ∧ i = .int .i64 k ∧ Hid (pfx (hs.drop k) x = t) ∧ Below w.heap.size w wr) (fun i _ => hs.length - (intOf i).toNat)
  case atStart => exact ⟨0, Nat.zero_le _, rfl, by show pfx (hs.drop 0) x = t; rw [List.drop_zero]; exact HT.out, Below.refl _ _⟩
  case round =>
    obtain ⟨k, hk, rfl, HL, hb⟩ := hrel
    by_cases hlt : k < hs.length
    · obtain ⟨⟨n, p⟩, hx⟩ : ∃ h, hs[k]? = some h := ⟨_, List.getElem?_eq_getElem hlt⟩
      have hdr : hs.drop k = (n, p) :: hs.drop (k + 1) := by
        rw [List.drop_eq_getElem_cons hlt]
        congr 1
        rw [List.getElem?_eq_getElem hlt] at hx
        simpa using hx
      obtain ⟨b, off, rfl, c1, c2⟩ : ∃ b off, a = some ⟨b, off, none⟩ ∧ wr.cell? ⟨b, off + k * 2, none⟩ = some (.string n) ∧ wr.cell? ⟨b, off + k * 2 + 1, none⟩ = some (.string p) := by
        rcases HV.out with ⟨e, _⟩ | ⟨_, b, off, _, e, hbl, hcell⟩
        · rw [e] at hx; simp at hx
        · injection e with e
          exact ⟨b, off, e, by rw [hb.cell hbl]; exact (hcell k _ hx).1, by rw [hb.cell hbl]; exact (hcell k _ hx).2⟩
      have hbA := hb.alloc hb.size (.cells #[.string n, .string p] 29)
      have hlt' : (k : Int) < (hs.length : Int) := by omega
      by_cases e : n = x
      · have HE : Hid (p = t) := by
          show p = t
          rw [← HL.out, hdr]; unfold pfx look; rw [if_pos e]; rfl
        subst e
        clear hdr hx
        go_wp2_with fail
        go_ret
        exact ⟨ret_str HE.out, hbA⟩
      · have HE : Hid (pfx (hs.drop (k + 1)) x = t) := by
          show pfx (hs.drop (k + 1)) x = t
          rw [← HL.out, hdr]; conv => rhs; unfold pfx look; rw [if_neg e]
          rfl
        have hne := toList_ne e
        clear hdr hx e
        go_wp2_with fail
        go_roundw
        case rel => exact ⟨k + 1, hlt, by go_num, HE, hbA⟩
        case measure => simp [intOf]; omega
    · obtain rfl : k = hs.length := by omega
      have HE : Hid (pfx [] x = t) := by show pfx [] x = t; rw [← HL.out, List.drop_length]
      have hlt' : ¬ ((hs.length : Int) < (hs.length : Int)) := by omega
      by_cases e2 : x = b2
      · subst e2
        have HF : Hid (coreT = t) := HE.out
        unfold b2 coreT at *
        go_wp2_with fail
        go_ret
        exact ⟨ret_str HF.out, hb⟩
      · have n2 : (x.toList == [33, 33]) = false := by have := toList_ne e2; unfold b2 at this; rw [show (ByteArray.mk #[33, 33]).toList = [33, 33] from by rw [ByteArray.toList_eq]] at this; exact this
        by_cases e1 : x = b1
        · subst e1
          have HF : Hid (b1 = t) := HE.out
          unfold b1 at *
          clear e2 n2
          go_wp2_with fail
          go_ret
          exact ⟨ret_str HF.out, hb⟩
        · have n1 : (x.toList == [33]) = false := by have := toList_ne e1; unfold b1 at this; rw [show (ByteArray.mk #[33]).toList = [33] from by rw [ByteArray.toList_eq]] at this; exact this
          have HF : Hid (ByteArray.empty = t) := by
            show ByteArray.empty = t
            rw [← HE.out]; unfold pfx look
            rw [if_neg (Ne.symm e1), if_neg (Ne.symm e2)]; rfl
          clear e1 e2
          go_wp2_with fail
          go_ret
          exact ⟨ret_str HF.out, hb⟩
/-- Behind the last sign. -/
def lxS (s : ByteArray) : Nat → Nat
  | 0 => 0
  | k + 1 => if bt s k = 33 then k + 1 else lxS s k
theorem lxS_le (s : ByteArray) (k : Nat) : lxS s k ≤ k := by
  induction k with
  | zero => exact Nat.le_refl _
  | succ k ih => unfold lxS; split <;> omega
def midS (s : ByteArray) : Bool := decide (3 < s.size) && (bt s 1 == 60 && bt s (s.size - 1) == 62)
/-- What a tag stands for. -/
def trS (f : ByteArray → ByteArray) (s : ByteArray) : Option ByteArray :=
  if s.size = 0 then none
  else if bt s 0 ≠ 33 then none
  else if s = b1 then some s
  else if midS s = true then some (s.extract 2 (s.size - 1))
  else if lxS s s.size = s.size then none
  else if nmB (s.extract 0 (lxS s s.size)) = false then none
  else if f (s.extract 0 (lxS s s.size)) = ByteArray.empty then none
  else some (f (s.extract 0 (lxS s s.size)) ++ s.extract (lxS s s.size) s.size)
theorem ret_pair {t u : ByteArray} {b d : Bool} (h0 : t = u) (h' : b = d) : Ending.returned (.tuple #[.string t, .bool b]) = .returned (.tuple #[.string u, .bool d]) := by rw [h0, h']
set_option maxHeartbeats 4000000 in
theorem spec_tagRead (s : ByteArray) (v : Value) (hs : List Hn) (w : World) (o : Option ByteArray) (hz : s.size ≤ 1073741824) (hV : SlH w v hs) (hl : hs.length ≤ 1073741824) (hp : ∀ x, (pfx hs x).size ≤ 1073741824) (ho : trS (pfx hs) s = o) :
    Calls Try.prog 19 #[.string s, v] w fun e w' => e = .returned (.tuple #[.string (o.getD ByteArray.empty), .bool o.isSome]) ∧ Below w.heap.size w w' := by
  unfold trS at ho
  by_cases h0 : s.size = 0
  · rw [if_pos h0] at ho
    subst ho
    have h0' : ((s.size : Int) == 0) = true := by rw [h0]; rfl
    clear hV hp h0
    go_enter Try.func19, Try.ntmps19
    go_wp2_with fail
    go_ret2
    exact ⟨rfl, Below.refl _ _⟩
  rw [if_neg h0] at ho
  have h0' : ((s.size : Int) == 0) = false := by rw [beq_eq_false_iff_ne]; omega
  have h0l : 0 < s.size := by omega
  have hg0 := bt_get s 0 h0l
  by_cases h33 : bt s 0 ≠ 33
  · rw [if_pos h33] at ho
    subst ho
    have c0 : (((s[0]'h0l).toNat : Int) != 33) = true := by rw [hg0, bne_iff_ne]; omega
    clear hV hp h0 hg0 h33
    go_enter Try.func19, Try.ntmps19
    go_wp2_with fail
    go_ret2
    exact ⟨rfl, Below.refl _ _⟩
  rw [if_neg h33] at ho
  have e33 : bt s 0 = 33 := by omega
  have c0 : (((s[0]'h0l).toNat : Int) != 33) = false := by rw [hg0, e33]; rfl
  by_cases e1 : s = b1
  · rw [if_pos e1] at ho
    subst ho
    subst e1
    unfold b1
    clear hV hp h0 hg0 h33 e33 h0' c0 h0l
    go_enter Try.func19, Try.ntmps19
    go_wp2_with fail
    go_ret2
    exact ⟨rfl, Below.refl _ _⟩
  rw [if_neg e1] at ho
  have n1 : (s.toList == [33]) = false := by have := toList_ne e1; unfold b1 at this; rw [show (ByteArray.mk #[33]).toList = [33] from by rw [ByteArray.toList_eq]] at this; exact this
  obtain ⟨n, hn⟩ : ∃ n, s.size = n + 1 := ⟨s.size - 1, by omega⟩
  have hnl : n < s.size := by omega
  have hL : (s.size : Int) - 1 = (n : Int) := by omega
  have hgn := bt_get s n hnl
  cases hM : midS s with
  | true =>
    rw [hM, if_pos rfl] at ho
    subst ho
    unfold midS at hM
    simp only [Bool.and_eq_true, decide_eq_true_eq, beq_iff_eq] at hM
    obtain ⟨h3, hm1, hm2⟩ := hM
    have h1l : 1 < s.size := by omega
    have hg1 := bt_get s 1 h1l
    have m1 : (s[1]'h1l).toNat = 60 := by rw [hg1]; exact hm1
    have m2 : (s[n]'hnl).toNat = 62 := by rw [hgn]; rw [hn] at hm2; exact hm2
    have h3' : (3 : Int) < (s.size : Int) := by omega
    have hn2 : 2 ≤ n := by omega
    have HE : Hid (s.extract 2 n = s.extract 2 (s.size - 1)) := by show s.extract 2 n = _; rw [hn]; rfl
    clear hV hp h0 hg0 h33 e33 e1 hgn hg1 hm1 hm2 hn h3
    go_enter Try.func19, Try.ntmps19
    go_wp2_with fail
    go_ret2
    exact ⟨ret_pair HE.out rfl, Below.refl _ _⟩
  | false =>
    rw [hM, if_neg (by simp)] at ho
    have HP0 : Hid (bt s 0 = 33) := e33
    have HVV : Hid (SlH w v hs) := hV
    have HPP : Hid (∀ x, (pfx hs x).size ≤ 1073741824) := hp
    have HOO : Hid ((if lxS s s.size = s.size then none else if nmB (s.extract 0 (lxS s s.size)) = false then none else if pfx hs (s.extract 0 (lxS s s.size)) = ByteArray.empty then none else some (pfx hs (s.extract 0 (lxS s s.size)) ++ s.extract (lxS s s.size) s.size)) = o) := ho
    have h3t : ((s.size : Int) ≤ 3) ∨ ((3 : Int) < (s.size : Int) ∧ ∃ h1l : 1 < s.size, (((s[1]'h1l).toNat : Int) == 60) = false) ∨ ((3 : Int) < (s.size : Int) ∧ ∃ h1l : 1 < s.size, (s[1]'h1l).toNat = 60 ∧ (((s[n]'hnl).toNat : Int) == 62) = false) := by
      by_cases h3 : 3 < s.size
      · right
        have h1l : 1 < s.size := by omega
        have hg1 := bt_get s 1 h1l
        by_cases h60 : bt s 1 = 60
        · right
          refine ⟨by omega, h1l, by rw [hg1]; exact h60, ?_⟩
          rw [hgn, beq_eq_false_iff_ne]
          intro h62
          unfold midS at hM
          rw [decide_eq_true h3, h60, hn] at hM
          have : bt s n = 62 := by omega
          rw [show n + 1 - 1 = n by omega, this] at hM
          cases hM
        · left
          exact ⟨by omega, h1l, by rw [hg1, beq_eq_false_iff_ne]; omega⟩
      · left; omega
    have HN : Hid (s.size = n + 1) := hn
    clear hM ho hV hp h0 hg0 h33 e33 e1 hgn hn
    rcases h3t with h3 | ⟨h3, h1l, m1⟩ | ⟨h3, h1l, m1, m2⟩
    all_goals
      go_enter Try.func19, Try.ntmps19
      go_wp2_with fail
      go_loop [7] (fun t => ∃ k : Nat, 1 ≤ k ∧ k ≤ s.size ∧ t = .int .i64 k ∧ Hid (lxS s k = lxS s s.size)) (fun t => (intOf t).toNat)
      case atStart => exact ⟨s.size, h0l, Nat.le_refl _, rfl, rfl⟩
      case round =>
        obtain ⟨k, hk1, hk, rfl, HL⟩ := hrel
        obtain ⟨j, rfl⟩ : ∃ j, k = j + 1 := ⟨k - 1, by omega⟩
        have hj : j < s.size := by omega
        have hbj := bt_get s j hj
        by_cases hq : bt s j = 33
        · have HC : Hid (lxS s s.size = j + 1) := by show lxS s s.size = j + 1; rw [← HL.out]; unfold lxS; rw [if_pos hq]
          have cj : (((s[j]'hj).toNat : Int) != 33) = false := by rw [hbj, hq]; rfl
          have hzn : (s.extract 0 (j + 1)).size ≤ mx := by rw [ByteArray.size_extract]; unfold mx; omega
          have hzr : (s.extract (j + 1) s.size).size ≤ 1073741824 := by rw [ByteArray.size_extract]; omega
          clear hbj hq
          obtain ⟨px, hpx⟩ : ∃ px, pfx hs (s.extract 0 (j + 1)) = px := ⟨_, rfl⟩
          have HPX : Hid (pfx hs (s.extract 0 (j + 1)) = px) := hpx
          have hpz : px.size ≤ 1073741824 := by rw [← hpx]; exact HPP.out _
          clear hpx
          have HO2 : Hid ((if j + 1 = s.size then none else if nmB (s.extract 0 (j + 1)) = false then none else if px = ByteArray.empty then none else some (px ++ s.extract (j + 1) s.size)) = o) := by
            have := HOO.out
            rw [HC.out, HPX.out] at this
            exact this
          go_wp2_with fail
          refine (prefix_any _ _ hs _ px HVV.out hl HPX.out).mono ?_
          rintro e w1 ⟨rfl, hb1⟩
          by_cases hcs : j + 1 = s.size
          · have hcs' : (((j : Int) + 1) == (s.size : Int)) = true := by rw [beq_iff_eq]; omega
            have HF : Hid (none = o) := by have := HO2.out; rw [if_pos hcs] at this; exact this
            have hoe : o = none := HF.out.symm
            subst hoe
            clear hcs HF HO2 HOO
            go_wp2_with fail
            go_ret2
            exact ⟨rfl, hb1⟩
          · have hcs' : (((j : Int) + 1) == (s.size : Int)) = false := by rw [beq_eq_false_iff_ne]; omega
            have HO3 : Hid ((if nmB (s.extract 0 (j + 1)) = false then none else if px = ByteArray.empty then none else some (px ++ s.extract (j + 1) s.size)) = o) := by have := HO2.out; rw [if_neg hcs] at this; exact this
            clear hcs HO2 HOO
            cases hN : nmB (s.extract 0 (j + 1)) with
            | false =>
              have HNN : Hid (nmB (s.extract 0 (j + 1)) = false) := hN
              have hoe : o = none := by have := HO3.out; rw [if_pos hN] at this; exact this.symm
              subst hoe
              clear hN HO3
              go_wp2_with fail
              refine (spec_hname _ _ false hzn HNN.out).mono ?_
              rintro e w2 ⟨rfl, rfl⟩
              go_wp2_with fail
              go_ret2
              exact ⟨rfl, hb1⟩
            | true =>
              have HNN : Hid (nmB (s.extract 0 (j + 1)) = true) := hN
              have HO4 : Hid ((if px = ByteArray.empty then none else some (px ++ s.extract (j + 1) s.size)) = o) := by have := HO3.out; rw [if_neg (by rw [hN]; simp)] at this; exact this
              clear hN HO3
              by_cases hpe : px = ByteArray.empty
              · have hoe : o = none := by have := HO4.out; rw [if_pos hpe] at this; exact this.symm
                have hpl : (px.toList == []) = true := by rw [hpe, ByteArray.toList_eq]; rfl
                subst hoe
                clear hpe HO4
                go_wp2_with fail
                refine (spec_hname _ _ true hzn HNN.out).mono ?_
                rintro e w2 ⟨rfl, rfl⟩
                go_wp2_with fail
                go_ret2
                exact ⟨rfl, hb1⟩
              · have hoe : o = some (px ++ s.extract (j + 1) s.size) := by have := HO4.out; rw [if_neg hpe] at this; exact this.symm
                have hpl : (px.toList == []) = false := by
                  have := toList_ne hpe
                  rw [show ByteArray.empty.toList = [] from by rw [ByteArray.toList_eq]; rfl] at this
                  exact this
                subst hoe
                clear hpe HO4
                go_wp2_with fail
                refine (spec_hname _ _ true hzn HNN.out).mono ?_
                rintro e w2 ⟨rfl, rfl⟩
                go_wp2_with fail
                go_ret2
                exact ⟨rfl, hb1⟩
        · have HE : Hid (lxS s j = lxS s s.size) := by
            show lxS s j = lxS s s.size
            rw [← HL.out]; conv => rhs; unfold lxS; rw [if_neg hq]
          have cj : (((s[j]'hj).toNat : Int) != 33) = true := by rw [hbj, bne_iff_ne]; omega
          have hj1 : 1 ≤ j := by
            rcases Nat.eq_zero_or_pos j with h | h
            · subst h; exact absurd HP0.out hq
            · exact h
          clear hbj hq
          go_wp2_with fail
          go_round
          case rel => exact ⟨j, hj1, by omega, by go_num, HE⟩
          case measure => simp [intOf]
end Go.Proofs.Ytopmboioojedbai
