/- impl.TagRead answers what a tag stands for. -/
import Derived.Test.YtopmboioojedbaiBk
import Derived.Test.YtopmboioojedbaiHd
import Derived.Test.YtopmboioojedbaiTg
namespace Go.Proofs.Ytopmboioojedbai
open Go.ChangeShapes Go.WideShapes Go.ChangeAt Go.RowKit Go.Shelf Go.Maps
/-- Behind the last sign. -/
def lx (s : ByteArray) : Nat → Nat
  | 0 => 0
  | k + 1 => if bt s k = 33 then k + 1 else lx s k
theorem lx_le (s : ByteArray) (k : Nat) : lx s k ≤ k := by
  induction k with
  | zero => exact Nat.le_refl _
  | succ k ih => unfold lx; split <;> omega
theorem lastIdx_lx (s : ByteArray) (k : Nat) (hk : k ≤ s.size) : Lib.lastIdx s 33 k + 1 = (lx s k : Int) := by
  induction k with
  | zero => rfl
  | succ k ih =>
    unfold lx
    by_cases h : bt s k = 33
    · rw [if_pos h, Lib.lastIdx_hit _ _ _ (by show ((s.data[k]!).toNat : Int) = 33; unfold bt at h; omega)]; omega
    · rw [if_neg h, Lib.lastIdx_miss _ _ _ (by show ((s.data[k]!).toNat : Int) ≠ 33; unfold bt at h; omega)]; exact ih (by omega)
theorem lastIndex33 (s : ByteArray) (w : World) (hs : s.size ≤ mx) :
    Calls Try.prog 44 #[.string s, .int .u8 33] w fun e w' => e = .returned (.int .i64 ((lx s s.size : Int) - 1)) ∧ w' = w := by
  have := Any.strings_LastIndexByte Try.lays149 s 33 (by unfold mx at hs; omega) w
  have e : Lib.lastIndexByte s 33 = (lx s s.size : Int) - 1 := by
    have := lastIdx_lx s s.size (Nat.le_refl _)
    unfold Lib.lastIndexByte; omega
  rw [e] at this
  exact this
/-- What stands between. -/
def suf (s t : ByteArray) : Bool := decide (t.size ≤ s.size ∧ s.extract (s.size - t.size) s.size = t)
theorem hass_any (s t : ByteArray) (w : World) (b : Bool) (hs : s.size ≤ mx) (hb : b = suf s t) :
    Calls Try.prog 60 #[.string s, .string t] w fun e w' => e = .returned (.bool b) ∧ w' = w := by
  unfold mx at hs
  subst hb
  by_cases h : t.size ≤ s.size
  · go_enter Try.func60, Try.ntmps60
    go_wp2
    go_ret
    exact ⟨ret_bool (by rw [toList_beq']; simp [suf, h]), rfl⟩
  · go_enter Try.func60, Try.ntmps60
    go_wp2
    go_ret
    exact ⟨ret_bool (by simp [suf, h]), rfl⟩
def bA : ByteArray := ⟨#[33, 60]⟩
def bZ : ByteArray := ⟨#[62]⟩
def midB (s : ByteArray) : Bool := decide (3 < s.size) && (pre s bA && suf s bZ)
def midT (s : ByteArray) : ByteArray := if midB s = true then s.extract 2 (s.size - 1) else ByteArray.empty
set_option maxHeartbeats 1000000 in
theorem between_any (s : ByteArray) (w : World) (t : ByteArray) (b : Bool) (hs : s.size ≤ mx) (ht : midT s = t) (hb : midB s = b) :
    Calls Try.prog 54 #[.string s, .string ⟨#[33, 60]⟩, .string ⟨#[62]⟩] w fun e w' => e = .returned (.tuple #[.string t, .bool b]) ∧ w' = w := by
  have hs' := hs
  unfold mx at hs'
  unfold midT at ht
  by_cases h3 : 3 < s.size
  · have h3' : (3 : Int) < (s.size : Int) := by omega
    cases hP : pre s bA with
    | false =>
      have hm : midB s = false := by unfold midB; rw [hP]; simp
      have HP : Hid (false = pre s ⟨#[33, 60]⟩) := hP.symm
      rw [hm] at hb ht
      have HT : Hid (ByteArray.empty = t) := by show _ = t; rw [← ht]; rfl
      subst hb
      clear ht hm hP
      go_enter Try.func54, Try.ntmps54
      go_wp2_with fail
      refine (hasp_any _ _ _ false HP.out).mono ?_
      rintro e w1 ⟨rfl, rfl⟩
      go_wp2_with fail
      go_ret2
      rw [← HT.out]
      exact ⟨rfl, rfl⟩
    | true =>
      have HP : Hid (true = pre s ⟨#[33, 60]⟩) := hP.symm
      cases hS : suf s bZ with
      | false =>
        have hm : midB s = false := by unfold midB; rw [hS]; simp
        have HS : Hid (false = suf s ⟨#[62]⟩) := hS.symm
        rw [hm] at hb ht
        have HT : Hid (ByteArray.empty = t) := by show _ = t; rw [← ht]; rfl
        subst hb
        clear ht hm hP hS
        go_enter Try.func54, Try.ntmps54
        go_wp2_with fail
        refine (hasp_any _ _ _ true HP.out).mono ?_
        rintro e w1 ⟨rfl, rfl⟩
        go_wp2_with fail
        refine (hass_any _ _ _ false hs HS.out).mono ?_
        rintro e w1 ⟨rfl, rfl⟩
        go_wp2_with fail
        go_ret2
        rw [← HT.out]
        exact ⟨rfl, rfl⟩
      | true =>
        have hm : midB s = true := by unfold midB; rw [hS, hP, decide_eq_true h3]; rfl
        have HS : Hid (true = suf s ⟨#[62]⟩) := hS.symm
        obtain ⟨n, hn⟩ : ∃ n, s.size = n + 1 := ⟨s.size - 1, by omega⟩
        rw [hm] at hb ht
        have HT : Hid (s.extract 2 n = t) := by show _ = t; rw [← ht, hn]; rfl
        have hL : (s.size : Int) - 1 = (n : Int) := by omega
        have hn2 : 2 ≤ n := by omega
        have hnl : n ≤ s.size := by omega
        subst hb
        clear ht hm hP hS hn
        go_enter Try.func54, Try.ntmps54
        go_wp2_with fail
        refine (hasp_any _ _ _ true HP.out).mono ?_
        rintro e w1 ⟨rfl, rfl⟩
        go_wp2_with fail
        refine (hass_any _ _ _ true hs HS.out).mono ?_
        rintro e w1 ⟨rfl, rfl⟩
        go_wp2_with fail
        go_ret2
        rw [← HT.out]
        exact ⟨rfl, rfl⟩
  · have hm : midB s = false := by unfold midB; rw [decide_eq_false h3]; rfl
    rw [hm] at hb ht
    have HT : Hid (ByteArray.empty = t) := by show _ = t; rw [← ht]; rfl
    have h3' : (s.size : Int) ≤ 3 := by omega
    subst hb
    clear ht hm h3
    go_enter Try.func54, Try.ntmps54
    go_wp2_with fail
    go_ret2
    rw [← HT.out]
    exact ⟨rfl, rfl⟩
/-- What a tag stands for, with f the prefixes. -/
def trO (f : ByteArray → Option ByteArray) (s : ByteArray) : Option ByteArray :=
  if s = b1 then some s
  else if midB s = true then some (s.extract 2 (s.size - 1))
  else if pre s b1 = false then none
  else if lx s s.size = s.size then none
  else if nmB (s.extract 0 (lx s s.size)) = false then none
  else (f (s.extract 0 (lx s s.size))).map fun p => p ++ s.extract (lx s s.size) s.size
/-- The prefixes that are not empty. -/
def ne0 (f : ByteArray → Option ByteArray) (x : ByteArray) : Option ByteArray := if (f x).getD ByteArray.empty = ByteArray.empty then none else f x
def PairPost (o : Option ByteArray) (w : World) (e : Ending) (w' : World) : Prop :=
  ∃ v, e = .returned (.tuple #[.string (o.getD ByteArray.empty), v]) ∧ ErrIs v o.isSome ∧ Below w.heap.size w w'
set_option maxHeartbeats 4000000 in
theorem tagOf_any (s : ByteArray) (B n : Nat) (f : ByteArray → Option ByteArray) (w : World) (hs : s.size ≤ 1073741824) (hB : Book w B n f) (hf : ∀ x p, f x = some p → p.size ≤ 1073741824) :
    Calls Try.prog 39 #[.string s, .map (some B)] w (PairPost (trO (ne0 f) s) w) := by
  have hm : s.size ≤ mx := by unfold mx; omega
  unfold trO
  by_cases e1 : s = b1
  · rw [if_pos e1]
    subst e1
    unfold b1
    clear hB hf
    go_enter Try.func39, Try.ntmps39
    go_wp2_with fail
    go_ret2
    exact ⟨_, rfl, err_yes, Below.refl _ _⟩
  rw [if_neg e1]
  have n1 : (s.toList == [33]) = false := by have := toList_ne e1; unfold b1 at this; rw [show (ByteArray.mk #[33]).toList = [33] from by rw [ByteArray.toList_eq]] at this; exact this
  cases hM : midB s with
  | true =>
    rw [if_pos rfl]
    have cB := fun w => between_any s w _ _ hm rfl hM
    unfold midT at cB
    rw [if_pos hM] at cB
    generalize s.extract 2 (s.size - 1) = t at *
    clear hB hf e1 hM
    go_enter Try.func39, Try.ntmps39
    go_wp2_with fail
    refine (cB _).mono ?_
    rintro e w1 ⟨rfl, rfl⟩
    clear cB
    go_wp2_with fail
    go_ret2
    exact ⟨_, rfl, err_yes, Below.refl _ _⟩
  | false =>
    rw [if_neg (by simp)]
    have cB := fun w => between_any s w _ _ hm rfl hM
    unfold midT at cB
    rw [if_neg (by rw [hM]; simp)] at cB
    clear hM e1
    cases hP : pre s b1 with
    | false =>
      rw [if_pos rfl]
      have HP : Hid (false = pre s ⟨#[33]⟩) := hP.symm
      clear hB hf hP
      go_enter Try.func39, Try.ntmps39
      go_wp2_with fail
      refine (cB _).mono ?_
      rintro e w1 ⟨rfl, rfl⟩
      clear cB
      go_wp2_with fail
      refine (hasp_any _ _ _ false HP.out).mono ?_
      rintro e w1 ⟨rfl, rfl⟩
      go_wp2_with fail
      go_ret2
      exact ⟨_, rfl, err_no _, Below.refl _ _⟩
    | true =>
      rw [if_neg (by simp)]
      have HP : Hid (true = pre s ⟨#[33]⟩) := hP.symm
      clear hP
      have hle := lx_le s s.size
      have cL := lastIndex33 s w hm
      generalize lx s s.size = c at *
      have hc1 : ((c : Int) - 1) + 1 = (c : Int) := by omega
      by_cases hc : c = s.size
      · rw [if_pos hc]
        have hE : ((s.extract c s.size).toList == []) = true := by
          rw [hc, show s.extract s.size s.size = ByteArray.empty from by apply ba_ext; simp, ByteArray.toList_eq]
          rfl
        clear hB hf hc
        go_enter Try.func39, Try.ntmps39
        go_wp2_with fail
        refine (cB _).mono ?_
        rintro e w1 ⟨rfl, rfl⟩
        clear cB
        go_wp2_with fail
        refine (hasp_any _ _ _ true HP.out).mono ?_
        rintro e w1 ⟨rfl, rfl⟩
        go_wp2_with fail
        refine cL.mono ?_
        rintro e w1 ⟨rfl, rfl⟩
        clear cL
        go_wp2_with fail
        go_quiet (fail)
        go_wp2_with fail
        go_ret2
        exact ⟨_, rfl, err_no _, below_drewN' _ _⟩
      · rw [if_neg hc]
        have hzr : (s.extract c s.size).size = s.size - c := by rw [ByteArray.size_extract]; omega
        have hE : ((s.extract c s.size).toList == []) = false := by
          rw [beq_eq_false_iff_ne]
          intro h
          have h2 : (s.extract c s.size).data.toList = [] := by rw [← ByteArray.toList_eq]; exact h
          have h3 : (s.extract c s.size).size = 0 := by
            show (s.extract c s.size).data.size = 0
            rw [← Array.length_toList, h2]; rfl
          omega
        have hzn : (s.extract 0 c).size = c := by rw [ByteArray.size_extract]; omega
        have hmn : (s.extract 0 c).size ≤ mx := by unfold mx; omega
        have hzn' : (s.extract 0 c).size ≤ 1073741824 := by omega
        have hzr' : (s.extract c s.size).size ≤ 1073741824 := by omega
        clear hc hzr hzn
        cases hN : nmB (s.extract 0 c) with
        | false =>
          rw [if_pos rfl]
          have HN : Hid (nmB (s.extract 0 c) = false) := hN
          clear hB hf hN
          go_enter Try.func39, Try.ntmps39
          go_wp2_with fail
          refine (cB _).mono ?_
          rintro e w1 ⟨rfl, rfl⟩
          clear cB
          go_wp2_with fail
          refine (hasp_any _ _ _ true HP.out).mono ?_
          rintro e w1 ⟨rfl, rfl⟩
          go_wp2_with fail
          refine cL.mono ?_
          rintro e w1 ⟨rfl, rfl⟩
          clear cL
          go_wp2_with fail
          go_quiet (fail)
          go_wp2_with fail
          refine (handleName_any (s.extract 0 c) _ false hmn HN.out).mono ?_
          rintro e w2 ⟨rfl, hb2⟩
          go_wp2_with fail
          go_ret2
          exact ⟨_, rfl, err_no _, (below_drewN' _ _).trans (hb2.mono (below_drewN' _ _).size)⟩
        | true =>
          rw [if_neg (by simp)]
          have HN : Hid (nmB (s.extract 0 c) = true) := hN
          clear hN
          have HB : Hid (∀ w', Below w.heap.size w w' → Book w' B n f) := fun w' h => hB.stays h
          have hpz : ((f (s.extract 0 c)).getD ByteArray.empty).size ≤ 1073741824 := by
            cases hF : f (s.extract 0 c) with
            | none => show 0 ≤ 1073741824; omega
            | some p => exact hf _ _ hF
          obtain ⟨p, hp⟩ : ∃ p, (f (s.extract 0 c)).getD ByteArray.empty = p := ⟨_, rfl⟩
          rw [hp] at hpz
          have HF : Hid ((f (s.extract 0 c)).getD ByteArray.empty = p) := hp
          by_cases hpe : p = ByteArray.empty
          · have hN0 : ne0 f (s.extract 0 c) = none := by unfold ne0; rw [if_pos (by rw [hp, hpe])]
            rw [hN0]
            subst hpe
            have hpE : (ByteArray.empty.toList == []) = true := by rw [ByteArray.toList_eq]; rfl
            clear hB hf hp hN0
            go_enter Try.func39, Try.ntmps39
            go_wp2_with fail
            refine (cB _).mono ?_
            rintro e w1 ⟨rfl, rfl⟩
            clear cB
            go_wp2_with fail
            refine (hasp_any _ _ _ true HP.out).mono ?_
            rintro e w1 ⟨rfl, rfl⟩
            go_wp2_with fail
            refine cL.mono ?_
            rintro e w1 ⟨rfl, rfl⟩
            clear cL
            go_wp2_with fail
            go_quiet (fail)
            go_wp2_with fail
            refine (handleName_any (s.extract 0 c) _ true hmn HN.out).mono ?_
            rintro e w2 ⟨rfl, hb2⟩
            have hb3 : Below w1.heap.size w1 w2 := (below_drewN' _ _).trans (hb2.mono (below_drewN' _ _).size)
            obtain ⟨y, hrun⟩ := (HB.out w2 hb3).look_pre hzn'
            rw [HF.out] at hrun
            have hfd : ∀ w : World, (Instr.field 29 (.agg #[.string y, .string ByteArray.empty]) 1).run Try.prog w = .ok (.string ByteArray.empty) w := fun _ => by kernel_rfl
            clear hb2
            go_wp2_with fail
            go_ret2
            exact ⟨_, rfl, err_no _, hb3⟩
          · have hN0 : ne0 f (s.extract 0 c) = some p := by
              unfold ne0
              rw [if_neg (by rw [hp]; exact hpe)]
              cases hF : f (s.extract 0 c) with
              | none => rw [hF] at hp; exact absurd hp.symm hpe
              | some q => rw [hF] at hp; rw [show p = q from hp.symm]
            rw [hN0]
            have hpE : (p.toList == []) = false := by
              have := toList_ne hpe
              rwa [show ByteArray.empty.toList = [] from by rw [ByteArray.toList_eq]; rfl] at this
            clear hB hf hp hN0 hpe
            go_enter Try.func39, Try.ntmps39
            go_wp2_with fail
            refine (cB _).mono ?_
            rintro e w1 ⟨rfl, rfl⟩
            clear cB
            go_wp2_with fail
            refine (hasp_any _ _ _ true HP.out).mono ?_
            rintro e w1 ⟨rfl, rfl⟩
            go_wp2_with fail
            refine cL.mono ?_
            rintro e w1 ⟨rfl, rfl⟩
            clear cL
            go_wp2_with fail
            go_quiet (fail)
            go_wp2_with fail
            refine (handleName_any (s.extract 0 c) _ true hmn HN.out).mono ?_
            rintro e w2 ⟨rfl, hb2⟩
            have hb3 : Below w1.heap.size w1 w2 := (below_drewN' _ _).trans (hb2.mono (below_drewN' _ _).size)
            obtain ⟨y, hrun⟩ := (HB.out w2 hb3).look_pre hzn'
            rw [HF.out] at hrun
            have hfd : ∀ w : World, (Instr.field 29 (.agg #[.string y, .string p]) 1).run Try.prog w = .ok (.string p) w := fun _ => by kernel_rfl
            clear hb2
            go_wp2_with fail
            go_ret2
            exact ⟨_, rfl, err_yes, hb3⟩
theorem look_small {hs : List Hn} (hz : smallH hs) : ∀ x p, look hs x = some p → p.size ≤ 1073741824 := by
  induction hs with
  | nil =>
    intro x p h
    unfold look at h
    split at h
    · injection h with h; rw [← h]; show 1 ≤ 1073741824; omega
    · split at h
      · injection h with h; rw [← h]; show 18 ≤ 1073741824; omega
      · cases h
  | cons h t ih =>
    intro x p hl
    unfold look at hl
    split at hl
    · injection hl with hl; rw [← hl]; exact (hz h (by simp)).2
    · exact ih (fun y hy => hz y (by simp [hy])) x p hl
set_option maxHeartbeats 1000000 in
theorem tagRead_any (s : ByteArray) (v : Value) (hs : List Hn) (w : World) (o : Option ByteArray) (hz : s.size ≤ 1073741824) (hV : SlH w v hs) (hsm : smallH hs) (hl : hs.length ≤ 1073741824) (ho : trO (ne0 (look hs)) s = o) :
    Calls Try.prog 21 #[.string s, v] w fun e w' => e = .returned (.tuple #[.string (o.getD ByteArray.empty), .bool o.isSome]) ∧ Below w.heap.size w w' := by
  have cK := book_any w v hs hV hsm hl
  have HF : Hid (∀ x p, look hs x = some p → p.size ≤ 1073741824) := look_small hsm
  have HO : Hid (trO (ne0 (look hs)) s = o) := ho
  clear hV hsm ho
  go_enter Try.func21, Try.ntmps21
  go_wp2_with fail
  refine cK.mono ?_
  rintro e w1 ⟨⟨B, n, rfl, hB⟩, hb1⟩
  have cT := tagOf_any s B n (look hs) w1 hz hB HF.out
  rw [HO.out] at cT
  clear cK hB
  go_wp2_with fail
  refine cT.mono ?_
  rintro e w2 ⟨v2, rfl, he, hb2⟩
  clear cT
  have hb3 := hb1.trans (hb2.mono hb1.size)
  clear HO
  cases o with
  | none =>
    obtain ⟨m, rfl⟩ := he.2 rfl
    clear he
    go_wp2_with fail
    go_quiet (fail)
    go_wp2
    go_ret2
    exact ⟨rfl, hb3.trans ((below_drewN' _ _).mono hb3.size)⟩
  | some t =>
    obtain rfl := he.1 rfl
    clear he
    go_wp2_with fail
    go_quiet (fail)
    go_wp2
    go_ret2
    exact ⟨rfl, hb3.trans ((below_drewN' _ _).mono hb3.size)⟩
end Go.Proofs.Ytopmboioojedbai
