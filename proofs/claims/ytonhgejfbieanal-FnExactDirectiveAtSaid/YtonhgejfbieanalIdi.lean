/- impl.DirectiveAt: the words of a line up to the first that begins with a #. -/
import Derived.Test.YtonhgejfbieanalDff
import Derived.Test.YtonhgejfbieanalDcr
import Derived.Test.YtonhgejfbieanalDpl
import Derived.Test.YtonhgejfbieanalLdc
namespace Go.Proofs.Ytonhgejfbieanal
open Go.ChangeShapes Go.WideShapes Go.ChangeAt Go.RowKit Go.Shelf
open Go.Lib (goFieldsP)
set_option maxRecDepth 100000 in
set_option maxHeartbeats 4000000 in
theorem implDc : ImplDc := by
  intro s p w L P hs hp hr
  have hmx : s.size ≤ mx := by unfold mx; omega
  have hk := cl_le s.size p
  have cB := fun w => bring_any s p w hmx
  obtain ⟨k, hk0⟩ : ∃ k, cl s.size p = k := ⟨_, rfl⟩
  rw [hk0] at hr hk cB
  have he : endL s k = P := by unfold dirAt at hr; injection hr
  have hL : dirGo s P (s.size + 1) k [] = L := by unfold dirAt at hr; rw [he] at hr; injection hr
  have hPs : P ≤ s.size := by rw [← he]; exact fwd_le pN s k hk
  have hkP : k ≤ P := by rw [← he]; exact fwd_ge pN s k
  obtain ⟨W, hW⟩ : ∃ W, wds (s.extract k P) (s.size + 1) 0 = W := ⟨_, rfl⟩
  have hd := dir_words s k P hk he (s.size + 1) 0 [] (by omega)
  rw [hW, show k + 0 = k from rfl, hL, List.nil_append] at hd
  have HL : Hid (L = W.take (cutN W)) := hd.1
  have hne := hd.2
  have hWl : W.length ≤ s.size + 1 := by rw [← hW]; exact wds_len _ _ _
  have hfl := fields_line s k P hk he
  rw [hW] at hfl
  have cF : Hid (∀ w, Calls Try.prog 27 #[.string (s.extract k P), .func (.func 28) #[] #[]] w fun e w' => ∃ A, e = .returned (.slice (some ⟨A, 0, none⟩) W.length W.length) ∧ w'.ownsRow w.heap.size 9 1 (.slice (some ⟨A, 0, none⟩) W.length W.length) W.length (celS W) ∧ Below w.heap.size w w') := fun w => by
    have := fieldsF_any 28 (enters_of Try.func28 (by kernel_rfl) rfl) pW (fun x w hx => dirWhite_any x w hx) (s.extract k P) w (by rw [size_cut s k P hPs]; omega)
    rw [hfl] at this
    exact this
  have cE := fun w => endAt_any_nat s k P w hmx hk he
  have HNE : Hid (∀ x ∈ W, 0 < x.size) := hne
  have HWL : Hid (W.length ≤ 2000000) := by show _ ≤ _; omega
  clear hr hL hW hd hne hfl hk0 hp
  go_enter Try.func11, Try.ntmps11
  go_wp2_with fail
  refine (cB _).mono ?_
  rintro e w1 ⟨rfl, rfl⟩
  go_wp2_with fail
  refine (cE _).mono ?_
  rintro e w2 ⟨rfl, hb2⟩
  have HB2 : Hid (Below w1.heap.size w1 w2) := hb2
  clear cB cE hb2
  have hPk : (k : Int) ≤ (P : Int) := by omega
  have hPz : (P : Int) ≤ (s.size : Int) := by omega
  go_wp2_with fail
  refine (cF.out _).mono ?_
  rintro e w3 ⟨A, rfl, ho3, hb3⟩
  have HO3 : Hid (w3.ownsRow w1.heap.size 9 1 (.slice (some ⟨A, 0, none⟩) W.length W.length) W.length (celS W)) := by
    refine ⟨ho3.1, ?_⟩
    rcases ho3.2 with h | ⟨g, cap, cur, h, h2, h3⟩
    · exact .inl h
    · exact .inr ⟨g, cap, cur, h, Nat.le_trans HB2.out.size h2, h3⟩
  have HB3 : Hid (Below w1.heap.size w1 w3) := HB2.out.trans (hb3.mono HB2.out.size)
  have cH := idxHash_any w1.heap.size A W w3 HO3.out HWL.out HNE.out
  clear cF ho3 hb3 HB2
  by_cases hc : cutN W < W.length
  · rw [if_pos hc] at cH
    have HM : Hid (CutR w3 w1.heap.size 9 1 (.slice (some ⟨A, 0, none⟩) (cutN W) (cutN W)) L.length (celS L)) := by
      have h := cut_at HO3.out (Nat.le_of_lt hc)
      show CutR _ _ _ _ _ _ _
      rw [HL.out, List.length_take, Nat.min_eq_left (Nat.le_of_lt hc)]
      unfold celS at h ⊢
      rw [← List.map_take] at h
      exact h
    generalize cutN W = M at *
    have hM0 : (0 : Int) ≤ (M : Int) := by omega
    have hM1 : (M : Int) ≤ (W.length : Int) := by omega
    go_wp2_with fail
    refine cH.mono ?_
    rintro e w4 ⟨rfl, rfl⟩
    clear cH HL HNE
    go_wp2_with fail
    go_ret2
    exact ⟨_, rfl, HM.out, HB3.out⟩
  · rw [if_neg hc] at cH
    have HM : Hid (CutR w3 w1.heap.size 9 1 (.slice (some ⟨A, 0, none⟩) W.length W.length) L.length (celS L)) := by
      show CutR _ _ _ _ _ _ _
      rw [HL.out, List.take_of_length_le (by omega)]
      exact cut_of HO3.out
    go_wp2_with fail
    refine cH.mono ?_
    rintro e w4 ⟨rfl, rfl⟩
    clear cH HL HNE
    go_wp2_with fail
    go_ret2
    exact ⟨_, rfl, HM.out, HB3.out⟩
end Go.Proofs.Ytonhgejfbieanal
