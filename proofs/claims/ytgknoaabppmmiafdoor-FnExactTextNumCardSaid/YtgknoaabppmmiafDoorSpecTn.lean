/- spec.TextNum answers what Tn says, and changes nothing that was there. -/
import Derived.Test.YtgknoaabppmmiafDoorTn
namespace Go.Proofs.YtgknoaabppmmiafDoor
open Go.ChangeShapes Go.WideShapes Go.ChangeAt Go.RowKit
theorem take_snoc (s : ByteArray) (k : Nat) (h : k < s.size) : s.data.toList.take (k + 1) = s.data.toList.take k ++ [s[k]] := by
  rw [List.take_succ_eq_append_getElem (by simpa using h)]; rfl
theorem digs_snoc {l : List UInt8} {c : UInt8} (h : digs l) (hc : 48 ≤ c.toNat ∧ c.toNat ≤ 57) : digs (l ++ [c]) := by
  intro x hx
  rw [List.mem_append] at hx
  rcases hx with hx | hx
  · exact h x hx
  · rw [List.mem_singleton.1 hx]; exact hc
theorem round_facts (s : ByteArray) (k : Nat) (a : Int) (h : k < s.size) (h10 : s.size ≤ 10) (hv : a = (dvN 0 (s.data.toList.take k) : Int)) (hd : digs (s.data.toList.take k)) (hc : 48 ≤ (s[k]).toNat ∧ (s[k]).toNat ≤ 57) :
    a * 10 + ((s[k]).toNat - 48 : Int) = (dvN 0 (s.data.toList.take (k + 1)) : Int) ∧ digs (s.data.toList.take (k + 1)) ∧ a * 10 + ((s[k]).toNat - 48 : Int) < 10000000000 := by
  have e := take_snoc s k h
  have d := digs_snoc hd hc
  have v : a * 10 + ((s[k]).toNat - 48 : Int) = (dvN 0 (s.data.toList.take (k + 1)) : Int) := by
    rw [e, dvN_snoc]; omega
  have b := dvN_lt (s.data.toList.take (k + 1)) 0 0 (by rw [e]; exact d) (by omega)
  have hl : (s.data.toList.take (k + 1)).length ≤ 10 := by
    rw [List.length_take]; omega
  have p : 10 ^ (0 + (s.data.toList.take (k + 1)).length) ≤ 10 ^ 10 := Nat.pow_le_pow_right (by omega) (by omega)
  refine ⟨v, by rw [e]; exact d, ?_⟩
  rw [v]
  have : dvN 0 (s.data.toList.take (k + 1)) < 10 ^ 10 := Nat.lt_of_lt_of_le b p
  omega
theorem ret_tn {a c : Int} {b d : Bool} (h : a = c) (h' : b = d) : Ending.returned (.tuple #[.int .i64 a, .bool b]) = .returned (.tuple #[.int .i64 c, .bool d]) := by rw [h, h']
theorem not_digs {s : ByteArray} {k : Nat} (h : k < s.size) (hc : ¬ (48 ≤ (s[k]).toNat ∧ (s[k]).toNat ≤ 57)) : ¬ digs s.data.toList := fun hd => hc (hd _ (Array.getElem_mem_toList (xs := s.data) h))
theorem spec_nt_is (n : Int) (t : ByteArray) (w : World) (h : nt n = t) :
    Calls Tryd.prog 10 #[.int .i64 n] w fun e w' => e = .returned (.string t) ∧ Below w.heap.size w w' := by
  subst h; exact spec_nt n w
def TnPost (s : ByteArray) (e : Ending) : Prop := ∃ v b, e = .returned (.tuple #[.int .i64 v, .bool b]) ∧ Tn s v b
set_option maxHeartbeats 1000000 in
theorem spec_tn (s : ByteArray) (w : World) :
    Calls Tryd.prog 12 #[.string s] w fun e w' => TnPost s e ∧ Below w.heap.size w w' := by
  by_cases h1 : s.size < 1
  · have H : Hid (Tn s 0 false) := Tn_empty (.inl h1)
    go_enter Tryd.func12, Tryd.ntmps12
    go_wp2
    go_ret2
    exact ⟨⟨_, _, rfl, H.out⟩, Below.refl _ _⟩
  · by_cases h2 : 10 < s.size
    · have H : Hid (Tn s 0 false) := Tn_empty (.inr h2)
      go_enter Tryd.func12, Tryd.ntmps12
      go_wp2
      go_ret2
      exact ⟨⟨_, _, rfl, H.out⟩, Below.refl _ _⟩
    · have h1' : 1 ≤ s.size := by omega
      have h2' : s.size ≤ 10 := by omega
      clear h1 h2
      go_enter Tryd.func12, Tryd.ntmps12
      go_wp2
      go_loop [4, 5] (fun n i => ∃ (k : Nat) (a : Int), k ≤ s.size ∧ i = .int .i64 k ∧ n = .int .i64 a ∧ Hid (a = (dvN 0 (s.data.toList.take k) : Int) ∧ digs (s.data.toList.take k)) ∧ 0 ≤ a ∧ a < 10000000000) (fun _ i => s.size - (intOf i).toNat)
      case atStart => exact ⟨0, 0, Nat.zero_le _, rfl, rfl, ⟨by rw [List.take_zero, dvN_nil]; rfl, fun c hc => by simp at hc⟩, by omega, by omega⟩
      case round =>
        obtain ⟨k, a, hk, rfl, rfl, HV, ha0, ha1⟩ := hrel
        by_cases hlt : k < s.size
        · by_cases hc : 48 ≤ (s[k]'hlt).toNat ∧ (s[k]'hlt).toNat ≤ 57
          · have hr := round_facts s k a hlt h2' HV.out.1 HV.out.2 hc
            have HR : Hid (a * 10 + ((s[k]'hlt).toNat - 48 : Int) = (dvN 0 (s.data.toList.take (k + 1)) : Int) ∧ digs (s.data.toList.take (k + 1)) ∧ a * 10 + ((s[k]'hlt).toNat - 48 : Int) < 10000000000) := hr
            obtain ⟨c1, c2⟩ := hc
            clear hr
            go_wp2_with fail
            go_round
            case rel => exact ⟨k + 1, _, by omega, by go_num, rfl, ⟨HR.out.1, HR.out.2.1⟩, by omega, HR.out.2.2⟩
            case measure => simp [intOf]; omega
          · have H : Hid (Tn s 0 false) := Tn_nodig (not_digs hlt hc)
            by_cases c1 : (s[k]'hlt).toNat < 48
            · clear hc
              go_wp2_with fail
              go_ret2
              exact ⟨⟨_, _, rfl, H.out⟩, Below.refl _ _⟩
            · have c2 : 57 < (s[k]'hlt).toNat := by omega
              clear hc
              go_wp2_with fail
              go_ret2
              exact ⟨⟨_, _, rfl, H.out⟩, Below.refl _ _⟩
        · have hke : s.data.toList.take k = s.data.toList := List.take_of_length_le (by simp; show s.size ≤ k; omega)
          have HT : Hid (∀ b : Bool, b = decide (nt a = s) → Tn s (if b = true then a else 0) b) := by
            intro b hb
            refine Tn_val a h1' ?_ b hb
            have := HV.out.1
            rw [hke] at this
            exact this
          clear hke
          obtain ⟨t, ht⟩ : ∃ t, nt a = t := ⟨_, rfl⟩
          have Ht : Hid (nt a = t) := ht
          clear ht
          by_cases he : t = s
          · have HN : Hid (Tn s a true) := by
              have := HT.out true (by rw [Ht.out]; simpa using he)
              rw [if_pos rfl] at this
              exact this
            subst he
            go_wp2_with fail
            refine (spec_nt_is a _ _ Ht.out).mono ?_
            rintro e w1 ⟨rfl, hb1⟩
            go_wp2_with fail
            go_ret2
            exact ⟨⟨_, _, rfl, HN.out⟩, hb1⟩
          · have HN : Hid (Tn s 0 false) := by
              have := HT.out false (by rw [Ht.out]; simpa using he)
              rw [if_neg (by decide)] at this
              exact this
            have hbe : (t.toList == s.toList) = false := by
              rw [beq_eq_false_iff_ne]
              intro h
              apply he
              rw [ByteArray.toList_eq, ByteArray.toList_eq] at h
              cases t; cases s; simp at h; simp [h]
            clear he
            go_wp2_with fail
            refine (spec_nt_is a _ _ Ht.out).mono ?_
            rintro e w1 ⟨rfl, hb1⟩
            go_wp2_with fail
            go_ret2
            exact ⟨⟨_, _, rfl, HN.out⟩, hb1⟩
end Go.Proofs.YtgknoaabppmmiafDoor
