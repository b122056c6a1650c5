/- impl.FoldFlow answers foldFlow. -/
import Derived.Test.YtfbgdkfnidghcajDoorIfj
import Derived.Test.YtfbgdkfnidghcajDoorLfo
namespace Go.Proofs.YtfbgdkfnidghcajDoor
open Go.ChangeShapes Go.WideShapes Go.ChangeAt Go.RowKit
theorem ff_joint {L k n : Nat} {x : ByteArray} {gx : Bool} {t : List Pc} {out : ByteArray} {g : Bool} (h0 : 0 < k) (h : ¬ (k + 1 < L ∧ x = ByteArray.empty ∧ gx = false)) :
    ffGo L k ((x, gx) :: t) out n g = ffGo L (k + 1) t (out ++ pj n g ++ x) 0 gx := by
  rw [ff_take (fun hh => h hh.2)]
  congr 2
  unfold pj
  by_cases hn : n = 0
  · subst hn
    cases g with
    | true => rw [if_neg (by simp), if_neg (by omega), if_pos rfl]; rfl
    | false => rw [if_pos ⟨h0, rfl, rfl⟩, if_neg (by omega), if_neg (by simp)]; exact app_empty _
  · rw [if_neg (by simp [hn]), if_pos (by omega)]
/-- A piece of the call's own. -/
def PcAt (b : Nat) (t : ByteArray) (g : Bool) (w : World) : Prop := w.heap[b]? = some (.cells #[.string t, .bool g] 29 (0, 0))
theorem PcAt.c0 {b : Nat} {t : ByteArray} {g : Bool} {w : World} (h : PcAt b t g w) : w.cell? ⟨b, 0, none⟩ = some (.string t) := by rw [Lib.cell_of_heap h]; rfl
theorem PcAt.c1 {b : Nat} {t : ByteArray} {g : Bool} {w : World} (h : PcAt b t g w) : w.cell? ⟨b, 1, none⟩ = some (.bool g) := by rw [Lib.cell_of_heap h]; rfl
theorem PcAt.kept {b B : Nat} {t : ByteArray} {g : Bool} {w w' : World} (h : PcAt b t g w) (hk : Lib.OthersKept 5 (some B) w w') (hne : b ≠ B) : PcAt b t g w' :=
  hk b _ h (fun e => hne (by injection e)) (fun c fz e => by injection e with _ e _; exact absurd e (by decide))
theorem PcAt.stays {b : Nat} {t : ByteArray} {g : Bool} {w w' : World} (h : PcAt b t g w) (hb : Below w.heap.size w w') : PcAt b t g w' :=
  (hb.block b (Array.getElem?_eq_some_iff.1 h).1).trans h
theorem PcAt.fz {b : Nat} {t : ByteArray} {g : Bool} {w : World} (h : PcAt b t g w) (j : Nat) : w.frozen? ⟨b, j, none⟩ = false := Lib.frozen_of_heap h j
theorem PcAt.put {b : Nat} {t t' : ByteArray} {g g' : Bool} {w : World} (h : PcAt b t g w) : PcAt b t' g' ((w.setCell ⟨b, 0, none⟩ (.string t')).setCell ⟨b, 1, none⟩ (.bool g')) := by
  unfold PcAt at h ⊢
  simp [World.setCell, Array.getElem?_modify, h]
theorem Bd.put {B b c : Nat} {o : ByteArray} {t : ByteArray} {g : Bool} {w : World} {x y : Value} (h : Bd B b o w) (hp : PcAt c t g w) (hcb : c ≠ b) : Bd B b o ((w.setCell ⟨c, 0, none⟩ x).setCell ⟨c, 1, none⟩ y) := by
  have one : ∀ p, Lib.BuilderAtF 49 5 B b p (Lib.byteCells o.data.toList) w → Lib.BuilderAtF 49 5 B b p (Lib.byteCells o.data.toList) ((w.setCell ⟨c, 0, none⟩ x).setCell ⟨c, 1, none⟩ y) := by
    intro p hb
    obtain ⟨hB, v, hk, hown, hne⟩ := hb
    have hv : v.ownBlock ≠ some c := Lib.ownBlock_neF hown hp (by decide)
    have hg : ∀ k, k ≠ c → ((w.setCell ⟨c, 0, none⟩ x).setCell ⟨c, 1, none⟩ y).heap[k]? = w.heap[k]? := fun k hk => by
      rw [Below.heap_setCell _ _ _ _ (fun e => hk (by simp [e])), Below.heap_setCell _ _ _ _ (fun e => hk (by simp [e]))]
    exact ⟨hB, v, (hg b (fun e => hcb e.symm)).trans hk, hown.kept (row := some c) ⟨rfl, rfl, rfl, by simp [World.setCell], fun k _ hk => hg k (fun e => hk (by rw [e]))⟩ (Or.inr hv), hne⟩
  exact h.elim (fun x => .inl (one _ x)) (fun x => .inr (one _ x))
set_option maxHeartbeats 8000000 in
theorem implFf : ImplFf := by
  intro w v ps hV hl
  obtain ⟨a, c, rfl⟩ := hV.sl
  by_cases hz : ps = []
  · subst hz
    have HO : Hid (ByteArray.empty = foldFlow []) := rfl
    clear hV hl
    go_enter Tryd.func27, Tryd.ntmps27
    go_wp2_with fail
    go_ret
    exact ⟨ret_str HO.out, Below.refl _ _⟩
  have HV : Hid (SlC w (.slice a ps.length c) ps) := hV
  have hL : ps.length ≤ 8388608 := by omega
  have HT : Hid (totC ps ≤ 8388608) := by show totC ps ≤ 8388608; omega
  have hpos : 0 < ps.length := List.length_pos_iff.2 hz
  obtain ⟨R, hR⟩ : ∃ R, foldFlow ps = R := ⟨_, rfl⟩
  rw [hR]
  obtain ⟨⟨t0, g0⟩, hx0⟩ : ∃ h, ps[0]? = some h := ⟨_, List.getElem?_eq_getElem hpos⟩
  have HR : Hid (ffGo ps.length 1 (ps.drop 1) t0 0 g0 = R) := by
    show ffGo ps.length 1 (ps.drop 1) t0 0 g0 = R
    rw [← hR]
    unfold foldFlow
    have hd : ps = (t0, g0) :: ps.drop 1 := by
      have := drop_pc hx0
      rwa [List.drop_zero] at this
    have : ∀ q : List Pc, q = (t0, g0) :: ps.drop 1 → ffGo ps.length 0 q ByteArray.empty 0 false = ffGo ps.length 1 (ps.drop 1) t0 0 g0 := by
      intro q hq
      rw [hq, ff_take (by omega), if_neg (by omega)]
      show ffGo ps.length (0 + 1) _ (ByteArray.empty ++ ByteArray.empty ++ t0) 0 g0 = _
      rw [empty_app, empty_app]
    exact (this ps hd).symm
  have ht0 : t0.size ≤ totC (ps.take 1) := by
    rw [totC_take hx0]; show t0.size ≤ _ + t0.size; omega
  have HT0 : Hid (t0.size + 0 ≤ totC (ps.take 1) + 2 * 1) := by show t0.size + 0 ≤ totC (ps.take 1) + 2 * 1; omega
  have ht0s : t0.size ≤ 8388608 := by have := totC_mem (List.mem_of_getElem? hx0); have := HT.out; simp at *; omega
  have hB1 : Below w.heap.size w (w.alloc (.cells #[.pointer none, .slice none 0 0] 49)) := (Below.refl _ w).alloc (Nat.le_refl _) _
  obtain ⟨b, off, rfl, c1, c2⟩ := HV.out.cells hB1 hx0
  rw [Nat.zero_mul, Nat.add_zero] at c1
  rw [Nat.zero_mul, Nat.add_zero] at c2
  have hne : ((ps.length : Int) == 0) = false := by rw [beq_eq_false_iff_ne]; omega
  have hpos' : (0 : Int) < (ps.length : Int) := by omega
  have HBF : Hid (Bd w.heap.size w.heap.size ByteArray.empty (w.alloc (.cells #[.pointer none, .slice none 0 0] 49))) := Bd.fresh w
  have HB1 : Hid (Below w.heap.size w (w.alloc (.cells #[.pointer none, .slice none 0 0] 49))) := hB1
  clear hV hl hR hx0 ht0 hB1
  go_enter Tryd.func27, Tryd.ntmps27
  go_wp2_with fail
  have hBa : Below w.heap.size w ((w.alloc (.cells #[.pointer none, .slice none 0 0] 49)).alloc (.cells #[.string t0, .bool g0] 29)) := HB1.out.alloc HB1.out.size _
  refine (write_any w.heap.size w.heap.size ByteArray.empty t0 _ (HBF.out.stays ((Below.refl _ _).alloc (Nat.le_refl _) _)) (by show 0 + t0.size ≤ _; omega) hBa.size).mono ?_
  rintro e w1 ⟨rfl, hD1, hb1, hk1⟩
  have hP1 : PcAt (w.heap.size + 1) t0 g0 w1 := by
    refine PcAt.kept ?_ hk1 (by omega)
    have h := heap_alloc_new (w.alloc (.cells #[.pointer none, .slice none 0 0] 49)) (.cells #[.string t0, .bool g0] 29)
    rw [show (w.alloc (.cells #[.pointer none, .slice none 0 0] 49)).heap.size = w.heap.size + 1 by simp] at h
    exact h
  rw [empty_app] at hD1
  have HD1 : Hid (Bd w.heap.size w.heap.size t0 w1) := hD1
  have HP1 : Hid (PcAt (w.heap.size + 1) t0 g0 w1) := hP1
  have HBb1 : Hid (Below w.heap.size w w1) := hBa.trans hb1
  clear hD1 hP1 hb1 hk1 hBa HBF HB1 c1 c2 hne
  go_wp2_with fail
  go_loopw [5, 6] (fun nv iv wr => ∃ (k n : Nat) (g : Bool) (t out : ByteArray), 1 ≤ k ∧ k ≤ ps.length ∧ iv = .int .i64 k ∧ nv = .int .i64 n ∧ Hid (Bd w.heap.size w.heap.size out wr) ∧ Hid (PcAt (w.heap.size + 1) t g wr) ∧ Hid (ffGo ps.length k (ps.drop k) out n g = R) ∧ Hid (out.size + n ≤ totC (ps.take k) + 2 * k) ∧ Hid (Below w.heap.size w wr)) (fun _ iv _ => ps.length - (intOf iv).toNat)
  case atStart => exact ⟨1, 0, g0, t0, t0, Nat.le_refl _, hpos, by go_num, by go_num, HD1, HP1, HR, HT0, HBb1⟩
  case round =>
    obtain ⟨k, n, g, t, out, h1k, hk, rfl, rfl, HD, HP, HG, HS, HB⟩ := hrel
    by_cases hlt : k < ps.length
    · obtain ⟨⟨x, gx⟩, hx⟩ : ∃ h, ps[k]? = some h := ⟨_, List.getElem?_eq_getElem hlt⟩
      obtain ⟨b', off', hbo, c1, c2⟩ := HV.out.cells HB.out hx
      injection hbo with hbo
      injection hbo with e1 e2 e3
      subst e1
      subst e2
      have hlt' : (k : Int) < (ps.length : Int) := by omega
      have HX : Hid (ps[k]? = some (x, gx)) := hx
      have HTT : Hid (totC (ps.take (k + 1)) = totC (ps.take k) + x.size) := totC_take hx
      have hxs : x.size ≤ 8388608 := by have := totC_mem (List.mem_of_getElem? hx); have := HT.out; simp at *; omega
      have hos : out.size + n ≤ 33554432 := by have h1 := HS.out; have h2 := totC_le ps k; have h3 := HT.out; omega
      have HDr : Hid (ps.drop k = (x, gx) :: ps.drop (k + 1)) := drop_pc hx
      clear hx
      by_cases hc : k + 1 < ps.length ∧ x = ByteArray.empty ∧ gx = false
      · obtain ⟨h1, rfl, rfl⟩ := hc
        have h1' : (k : Int) < (ps.length : Int) - 1 := by omega
        have hE := e_list
        have HG2 : Hid (ffGo ps.length (k + 1) (ps.drop (k + 1)) out (n + 1) g = R) := by
          show ffGo ps.length (k + 1) (ps.drop (k + 1)) out (n + 1) g = R
          rw [← HG.out, HDr.out, ff_skip h1k h1]
        have HS2 : Hid (out.size + (n + 1) ≤ totC (ps.take (k + 1)) + 2 * (k + 1)) := by
          have := HS.out; have := HTT.out
          show out.size + (n + 1) ≤ _
          omega
        clear HG HS HTT HDr
        go_wp2_with fail
        go_roundw
        case rel => exact ⟨k + 1, n + 1, g, t, out, by omega, hlt, by go_num, by go_num, HD, HP, HG2, HS2, HB⟩
        case measure => simp [intOf]; omega
      · have HG2 : Hid (ffGo ps.length (k + 1) (ps.drop (k + 1)) (out ++ pj n g ++ x) 0 gx = R) := by
          show ffGo ps.length (k + 1) (ps.drop (k + 1)) (out ++ pj n g ++ x) 0 gx = R
          rw [← HG.out, HDr.out, ff_joint h1k hc]
        have hway : x ≠ ByteArray.empty ∨ (x = ByteArray.empty ∧ gx = true) ∨ (x = ByteArray.empty ∧ gx = false ∧ ¬ (k : Int) < (ps.length : Int) - 1) := by
          by_cases h2 : x = ByteArray.empty
          · cases gx with
            | true => exact .inr (.inl ⟨h2, rfl⟩)
            | false => exact .inr (.inr ⟨h2, rfl, fun h => hc ⟨by omega, h2, rfl⟩⟩)
          · exact .inl h2
        have hjs := pj_size n g
        obtain ⟨J, hJ⟩ : ∃ J, pj n g = J := ⟨_, rfl⟩
        have HJ : Hid (pj n g = J) := hJ
        rw [hJ] at HG2 hjs
        have HS2 : Hid ((out ++ J ++ x).size + 0 ≤ totC (ps.take (k + 1)) + 2 * (k + 1)) := by
          have := HS.out; have := HTT.out
          show (out ++ J ++ x).size + 0 ≤ _
          rw [ByteArray.size_append, ByteArray.size_append]
          omega
        have HJS : Hid (out.size + J.size ≤ 33554433) := by show out.size + J.size ≤ 33554433; omega
        have c3 := HP.out.c0
        have c4 := HP.out.c1
        have hn : n ≤ 33554432 := by omega
        clear hJ hjs hc HG HS HTT HDr
        have tail : True := trivial
        rcases hway with hx0 | ⟨rfl, rfl⟩ | ⟨rfl, rfl, hx0⟩
        · have hE := ne_list hx0
          clear hx0
          go_wp2_with fail
          refine (pieceJoint_any t g n _ hn J HJ.out).mono ?_
          rintro e w2 ⟨rfl, hb2⟩
          have HD2 : Hid (Bd w.heap.size w.heap.size out w2) := HD.out.stays hb2
          have HP2 : Hid (PcAt (w.heap.size + 1) t g w2) := HP.out.stays hb2
          have HB2 : Hid (Below w.heap.size w w2) := HB.out.trans (hb2.mono HB.out.size)
          clear hb2 HD HP HB c1 c2 c3 c4
          go_wp2_with fail
          refine (write_any w.heap.size w.heap.size out J _ HD2.out (by have := HJS.out; omega) HB2.out.size).mono ?_
          rintro e w3 ⟨rfl, hD3, hb3, hk3⟩
          have HD3 : Hid (Bd w.heap.size w.heap.size (out ++ J) w3) := hD3
          have HP3 : Hid (PcAt (w.heap.size + 1) t g w3) := HP2.out.kept hk3 (by omega)
          have HB3 : Hid (Below w.heap.size w w3) := HB2.out.trans hb3
          obtain ⟨b', off', hbo, c1, c2⟩ := HV.out.cells HB3.out HX.out
          injection hbo with hbo
          injection hbo with e1 e2 e3
          subst e1
          subst e2
          clear hD3 hb3 hk3 HD2 HP2 HB2
          go_wp2_with fail
          refine (write_any w.heap.size w.heap.size (out ++ J) _ _ HD3.out (by rw [ByteArray.size_append]; have := HJS.out; omega) HB3.out.size).mono ?_
          rintro e w4 ⟨rfl, hD4, hb4, hk4⟩
          have HP4 : Hid (PcAt (w.heap.size + 1) t g w4) := HP3.out.kept hk4 (by omega)
          have HB4 : Hid (Below w.heap.size w w4) := HB3.out.trans hb4
          have HD4 : Hid (Bd w.heap.size w.heap.size (out ++ J ++ _) w4) := hD4
          clear c1 c2
          obtain ⟨b', off', hbo, c1, c2⟩ := HV.out.cells HB4.out HX.out
          injection hbo with hbo
          injection hbo with e1 e2 e3
          subst e1
          subst e2
          have c3 := HP4.out.c0
          have c4 := HP4.out.c1
          have f3 := HP4.out.fz 0
          have f4 := HP4.out.fz 1
          clear hD4 hb4 hk4 HD3 HP3 HB3
          go_wp2_with fail
          have HDn := HD4.out.put (x := .string x) (y := .bool gx) HP4.out (by omega)
          have HPn : PcAt (w.heap.size + 1) x gx _ := HP4.out.put
          have hBn : Below w.heap.size w ((w4.setCell ⟨w.heap.size + 1, 0, none⟩ (.string x)).setCell ⟨w.heap.size + 1, 1, none⟩ (.bool gx)) := (HB4.out.setCell (p := ⟨w.heap.size + 1, 0, none⟩) (by show w.heap.size ≤ w.heap.size + 1; omega) _).setCell (p := ⟨w.heap.size + 1, 1, none⟩) (by show w.heap.size ≤ w.heap.size + 1; omega) _
          go_roundw
          case rel =>
            go_light
            exact ⟨k + 1, 0, gx, x, _, by omega, hlt, by go_num, by go_num, HDn, HPn, HG2, HS2, hBn⟩
          case measure => go_light; simp [intOf]; omega
        · have hE := e_list
          go_wp2_with fail
          refine (pieceJoint_any t g n _ hn J HJ.out).mono ?_
          rintro e w2 ⟨rfl, hb2⟩
          have HD2 : Hid (Bd w.heap.size w.heap.size out w2) := HD.out.stays hb2
          have HP2 : Hid (PcAt (w.heap.size + 1) t g w2) := HP.out.stays hb2
          have HB2 : Hid (Below w.heap.size w w2) := HB.out.trans (hb2.mono HB.out.size)
          clear hb2 HD HP HB c1 c2 c3 c4
          go_wp2_with fail
          refine (write_any w.heap.size w.heap.size out J _ HD2.out (by have := HJS.out; omega) HB2.out.size).mono ?_
          rintro e w3 ⟨rfl, hD3, hb3, hk3⟩
          have HD3 : Hid (Bd w.heap.size w.heap.size (out ++ J) w3) := hD3
          have HP3 : Hid (PcAt (w.heap.size + 1) t g w3) := HP2.out.kept hk3 (by omega)
          have HB3 : Hid (Below w.heap.size w w3) := HB2.out.trans hb3
          obtain ⟨b', off', hbo, c1, c2⟩ := HV.out.cells HB3.out HX.out
          injection hbo with hbo
          injection hbo with e1 e2 e3
          subst e1
          subst e2
          clear hD3 hb3 hk3 HD2 HP2 HB2
          go_wp2_with fail
          refine (write_any w.heap.size w.heap.size (out ++ J) _ _ HD3.out (by rw [ByteArray.size_append]; have := HJS.out; omega) HB3.out.size).mono ?_
          rintro e w4 ⟨rfl, hD4, hb4, hk4⟩
          have HP4 : Hid (PcAt (w.heap.size + 1) t g w4) := HP3.out.kept hk4 (by omega)
          have HB4 : Hid (Below w.heap.size w w4) := HB3.out.trans hb4
          have HD4 : Hid (Bd w.heap.size w.heap.size (out ++ J ++ _) w4) := hD4
          clear c1 c2
          obtain ⟨b', off', hbo, c1, c2⟩ := HV.out.cells HB4.out HX.out
          injection hbo with hbo
          injection hbo with e1 e2 e3
          subst e1
          subst e2
          have c3 := HP4.out.c0
          have c4 := HP4.out.c1
          have f3 := HP4.out.fz 0
          have f4 := HP4.out.fz 1
          clear hD4 hb4 hk4 HD3 HP3 HB3
          go_wp2_with fail
          have HDn := HD4.out.put (x := .string ByteArray.empty) (y := .bool true) HP4.out (by omega)
          have HPn : PcAt (w.heap.size + 1) ByteArray.empty true _ := HP4.out.put
          have hBn : Below w.heap.size w ((w4.setCell ⟨w.heap.size + 1, 0, none⟩ (.string ByteArray.empty)).setCell ⟨w.heap.size + 1, 1, none⟩ (.bool true)) := (HB4.out.setCell (p := ⟨w.heap.size + 1, 0, none⟩) (by show w.heap.size ≤ w.heap.size + 1; omega) _).setCell (p := ⟨w.heap.size + 1, 1, none⟩) (by show w.heap.size ≤ w.heap.size + 1; omega) _
          go_roundw
          case rel =>
            go_light
            exact ⟨k + 1, 0, true, ByteArray.empty, _, by omega, hlt, by go_num, by go_num, HDn, HPn, HG2, HS2, hBn⟩
          case measure => go_light; simp [intOf]; omega
        · have hE := e_list
          go_wp2_with fail
          refine (pieceJoint_any t g n _ hn J HJ.out).mono ?_
          rintro e w2 ⟨rfl, hb2⟩
          have HD2 : Hid (Bd w.heap.size w.heap.size out w2) := HD.out.stays hb2
          have HP2 : Hid (PcAt (w.heap.size + 1) t g w2) := HP.out.stays hb2
          have HB2 : Hid (Below w.heap.size w w2) := HB.out.trans (hb2.mono HB.out.size)
          clear hb2 HD HP HB c1 c2 c3 c4
          go_wp2_with fail
          refine (write_any w.heap.size w.heap.size out J _ HD2.out (by have := HJS.out; omega) HB2.out.size).mono ?_
          rintro e w3 ⟨rfl, hD3, hb3, hk3⟩
          have HD3 : Hid (Bd w.heap.size w.heap.size (out ++ J) w3) := hD3
          have HP3 : Hid (PcAt (w.heap.size + 1) t g w3) := HP2.out.kept hk3 (by omega)
          have HB3 : Hid (Below w.heap.size w w3) := HB2.out.trans hb3
          obtain ⟨b', off', hbo, c1, c2⟩ := HV.out.cells HB3.out HX.out
          injection hbo with hbo
          injection hbo with e1 e2 e3
          subst e1
          subst e2
          clear hD3 hb3 hk3 HD2 HP2 HB2
          go_wp2_with fail
          refine (write_any w.heap.size w.heap.size (out ++ J) _ _ HD3.out (by rw [ByteArray.size_append]; have := HJS.out; omega) HB3.out.size).mono ?_
          rintro e w4 ⟨rfl, hD4, hb4, hk4⟩
          have HP4 : Hid (PcAt (w.heap.size + 1) t g w4) := HP3.out.kept hk4 (by omega)
          have HB4 : Hid (Below w.heap.size w w4) := HB3.out.trans hb4
          have HD4 : Hid (Bd w.heap.size w.heap.size (out ++ J ++ _) w4) := hD4
          clear c1 c2
          obtain ⟨b', off', hbo, c1, c2⟩ := HV.out.cells HB4.out HX.out
          injection hbo with hbo
          injection hbo with e1 e2 e3
          subst e1
          subst e2
          have c3 := HP4.out.c0
          have c4 := HP4.out.c1
          have f3 := HP4.out.fz 0
          have f4 := HP4.out.fz 1
          clear hD4 hb4 hk4 HD3 HP3 HB3
          go_wp2_with fail
          have HDn := HD4.out.put (x := .string ByteArray.empty) (y := .bool false) HP4.out (by omega)
          have HPn : PcAt (w.heap.size + 1) ByteArray.empty false _ := HP4.out.put
          have hBn : Below w.heap.size w ((w4.setCell ⟨w.heap.size + 1, 0, none⟩ (.string ByteArray.empty)).setCell ⟨w.heap.size + 1, 1, none⟩ (.bool false)) := (HB4.out.setCell (p := ⟨w.heap.size + 1, 0, none⟩) (by show w.heap.size ≤ w.heap.size + 1; omega) _).setCell (p := ⟨w.heap.size + 1, 1, none⟩) (by show w.heap.size ≤ w.heap.size + 1; omega) _
          go_roundw
          case rel =>
            go_light
            exact ⟨k + 1, 0, false, ByteArray.empty, _, by omega, hlt, by go_num, by go_num, HDn, HPn, HG2, HS2, hBn⟩
          case measure => go_light; simp [intOf]; omega
    · have hlt' : ¬ (k : Int) < (ps.length : Int) := by omega
      have HO : Hid (out = R) := by
        show out = R
        rw [← HG.out, show ps.drop k = [] from List.drop_eq_nil_of_le (by omega)]
        rfl
      clear HG HS
      go_wp2_with fail
      refine (string_any w.heap.size w.heap.size out _ HD.out HB.out.size).mono ?_
      rintro e w2 ⟨rfl, hb2⟩
      go_wp2_with fail
      go_ret
      exact ⟨ret_str HO.out, HB.out.trans hb2⟩
end Go.Proofs.YtfbgdkfnidghcajDoor
