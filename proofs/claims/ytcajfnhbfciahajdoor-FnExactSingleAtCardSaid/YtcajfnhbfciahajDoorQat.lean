/- The contract of impl.quotedAt, over that of its step. -/
import Derived.Test.YtcajfnhbfciahajDoorStp
import Derived.Test.YtcajfnhbfciahajDoorCtc
import Derived.Test.YtcajfnhbfciahajDoorIff
namespace Go.Proofs.YtcajfnhbfciahajDoor
open Go.ChangeShapes Go.WideShapes Go.ChangeAt Go.RowKit Go.Deep
/-- The variables of the answer. -/
def Vars (a : Nat) (w : World) : Prop := w.heap[a]? = some (.cells #[.string ⟨#[]⟩] 9 (0, 0)) ∧ w.heap[a + 1]? = some (.cells #[.int .i64 0] 3 (0, 0)) ∧ w.heap[a + 1 + 1]? = some (.cells #[.int .i64 0] 3 (0, 0))
theorem Vars.stays {a b : Nat} {w w' : World} (h : Vars a w) (hb : Below b w w') (hab : a + 2 < b) : Vars a w' :=
  ⟨(hb.block _ (by omega)).trans h.1, (hb.block _ (by omega)).trans h.2.1, (hb.block _ (by omega)).trans h.2.2⟩
theorem vars_new (w : World) : Vars w.heap.size (((w.alloc (.cells #[.string ⟨#[]⟩] 9)).alloc (.cells #[.int .i64 0] 3)).alloc (.cells #[.int .i64 0] 3)) := by
  refine ⟨?_, ?_, ?_⟩
  · show (((w.heap.push _).push _).push _)[_]? = _; rw [Array.getElem?_push, if_neg (by simp; omega), Array.getElem?_push, if_neg (by simp), Array.getElem?_push, if_pos rfl]
  · show (((w.heap.push _).push _).push _)[_]? = _; rw [Array.getElem?_push, if_neg (by simp), Array.getElem?_push, if_pos (by simp)]
  · show (((w.heap.push _).push _).push _)[_]? = _; rw [Array.getElem?_push, if_pos (by simp)]
/-- The reader as it is made. -/
theorem rd_new (W : World) (s : ByteArray) (k : Nat) : RdM W.heap.size s k [] ByteArray.empty 0 (W.alloc (.cells #[.string s, .int .i64 (k : Int), .slice none 0 0, .slice none 0 0, .int .i64 0] 38)) :=
  ⟨none, 0, 0, none, 0, 0, heap_alloc_new W _, World.ownsRow_nil _ _ _ _, World.ownsRow_nil _ _ _ _⟩
/-- The answer's variables behind the closure. -/
theorem vars_read {a : Nat} {w W : World} {c at_ : Int} (hv : Vars a W) (hb : Below a w W) :
    ((((W.setCell ⟨a, 0, none⟩ (.string ⟨#[]⟩)).setCell ⟨a + 1, 0, none⟩ (.int .i64 at_)).setCell ⟨a + 1 + 1, 0, none⟩ (.int .i64 c)).drew.cell? ⟨a, 0, none⟩ = some (.string ⟨#[]⟩) ∧
     (((W.setCell ⟨a, 0, none⟩ (.string ⟨#[]⟩)).setCell ⟨a + 1, 0, none⟩ (.int .i64 at_)).setCell ⟨a + 1 + 1, 0, none⟩ (.int .i64 c)).drew.cell? ⟨a + 1, 0, none⟩ = some (.int .i64 at_) ∧
     (((W.setCell ⟨a, 0, none⟩ (.string ⟨#[]⟩)).setCell ⟨a + 1, 0, none⟩ (.int .i64 at_)).setCell ⟨a + 1 + 1, 0, none⟩ (.int .i64 c)).drew.cell? ⟨a + 1 + 1, 0, none⟩ = some (.int .i64 c)) ∧
    Below a w (((W.setCell ⟨a, 0, none⟩ (.string ⟨#[]⟩)).setCell ⟨a + 1, 0, none⟩ (.int .i64 at_)).setCell ⟨a + 1 + 1, 0, none⟩ (.int .i64 c)).drew := by
  obtain ⟨y0, y1, y2⟩ := hv
  have i1 : ¬ (a + 1 + 1 = a) := by omega
  have i2 : ¬ (a = a + 1 + 1) := by omega
  refine ⟨⟨?_, ?_, ?_⟩, (((hb.setCell (Nat.le_refl _) _).setCell (by show _ ≤ _ + 1; omega) _).setCell (by show _ ≤ _ + 1 + 1; omega) _).drew⟩
  · show World.cell? (((W.setCell ⟨a, 0, none⟩ (.string ⟨#[]⟩)).setCell ⟨a + 1, 0, none⟩ (.int .i64 at_)).setCell ⟨a + 1 + 1, 0, none⟩ (.int .i64 c)) _ = _
    simp [World.cell?, World.setCell, Array.getElem?_modify, y0, i1]
  · show World.cell? (((W.setCell ⟨a, 0, none⟩ (.string ⟨#[]⟩)).setCell ⟨a + 1, 0, none⟩ (.int .i64 at_)).setCell ⟨a + 1 + 1, 0, none⟩ (.int .i64 c)) _ = _
    simp [World.cell?, World.setCell, Array.getElem?_modify, y1]
  · show World.cell? (((W.setCell ⟨a, 0, none⟩ (.string ⟨#[]⟩)).setCell ⟨a + 1, 0, none⟩ (.int .i64 at_)).setCell ⟨a + 1 + 1, 0, none⟩ (.int .i64 c)) _ = _
    simp [World.cell?, World.setCell, Array.getElem?_modify, y2, i2]
theorem vars_read2 {a : Nat} {w W : World} {t : ByteArray} {c at_ : Int} (hv : Vars a W) (hb : Below a w W) :
    ((((W.setCell ⟨a, 0, none⟩ (.string t)).setCell ⟨a + 1, 0, none⟩ (.int .i64 at_)).setCell ⟨a + 1 + 1, 0, none⟩ (.int .i64 c)).cell? ⟨a, 0, none⟩ = some (.string t) ∧
     (((W.setCell ⟨a, 0, none⟩ (.string t)).setCell ⟨a + 1, 0, none⟩ (.int .i64 at_)).setCell ⟨a + 1 + 1, 0, none⟩ (.int .i64 c)).cell? ⟨a + 1, 0, none⟩ = some (.int .i64 at_) ∧
     (((W.setCell ⟨a, 0, none⟩ (.string t)).setCell ⟨a + 1, 0, none⟩ (.int .i64 at_)).setCell ⟨a + 1 + 1, 0, none⟩ (.int .i64 c)).cell? ⟨a + 1 + 1, 0, none⟩ = some (.int .i64 c)) ∧
    Below a w (((W.setCell ⟨a, 0, none⟩ (.string t)).setCell ⟨a + 1, 0, none⟩ (.int .i64 at_)).setCell ⟨a + 1 + 1, 0, none⟩ (.int .i64 c)) := by
  obtain ⟨y0, y1, y2⟩ := hv
  have i1 : ¬ (a + 1 + 1 = a) := by omega
  have i2 : ¬ (a = a + 1 + 1) := by omega
  refine ⟨⟨?_, ?_, ?_⟩, ((hb.setCell (Nat.le_refl _) _).setCell (by show _ ≤ _ + 1; omega) _).setCell (by show _ ≤ _ + 1 + 1; omega) _⟩
  · simp [World.cell?, World.setCell, Array.getElem?_modify, y0, i1]
  · simp [World.cell?, World.setCell, Array.getElem?_modify, y1]
  · simp [World.cell?, World.setCell, Array.getElem?_modify, y2, i2]
theorem catch_vars {a : Nat} {w w1 : World} (c at_ : Int) (hv : Vars a w1) (hb : Below a w w1) (hlt : a + 3 ≤ w1.heap.size) :
    CallsD Tryd.prog 16 #[.pointer (some ⟨a, 0, none⟩), .pointer (some ⟨a + 1, 0, none⟩), .pointer (some ⟨a + 1 + 1, 0, none⟩)] (.panicking [{ v := .iface 35 (.agg #[.int .i64 c, .int .i64 at_]), recovered := false }]) w1 fun e u' F =>
      e = .returned (.tuple #[]) ∧ u' = .panicking [{ v := .iface 35 (.agg #[.int .i64 c, .int .i64 at_]), recovered := true }] ∧
      (F.cell? ⟨a, 0, none⟩ = some (.string ⟨#[]⟩) ∧ F.cell? ⟨a + 1, 0, none⟩ = some (.int .i64 at_) ∧ F.cell? ⟨a + 1 + 1, 0, none⟩ = some (.int .i64 c)) ∧ Below a w F := by
  obtain ⟨u0, u1, u2⟩ := hv
  refine (catch_fault a (a + 1) (a + 1 + 1) (.string ⟨#[]⟩) (.int .i64 0) (.int .i64 0) c at_ [] w1 (by simp [World.cell?, u0]) (by simp [World.cell?, u1]) (by simp [World.cell?, u2]) (by simp [World.frozen?, u0]) (by simp [World.frozen?, u1]) (by simp [World.frozen?, u2]) (by omega) (by omega) (by omega)).mono ?_
  rintro e u' w'' ⟨rfl, rfl, W, hW, rfl⟩
  have h := vars_read (c := c) (at_ := at_) (Vars.stays (b := w1.heap.size) ⟨u0, u1, u2⟩ hW (by omega)) (hb.trans (hW.mono (by omega)))
  exact ⟨rfl, rfl, h.1, h.2⟩
def atOf (b : Nat) (w : World) : Nat := match w.cell? ⟨b, 1, none⟩ with
  | some (.int _ i) => i.toNat
  | _ => 0
theorem atOf_is {b : Nat} {s : ByteArray} {i : Nat} {l : List Pc} {cur : ByteArray} {fm : Nat} {w : World} (h : RdM b s i l cur fm w) : atOf b w = i := by
  unfold atOf
  rw [(rd_c1 h).1]
  simp
set_option maxHeartbeats 8000000 in
theorem quoted_any (g : Nat) (eg : ∀ args w, (callFunc g args).run Tryd.prog w = .ok (.enter g args) w) (V : World → Prop) (G : Nat → List Pc → ByteArray → Nat → ByteArray × Nat × Nat) (J : Nat → Prop) (s qt : ByteArray) (p : Int) (w : World)
    (hstep : StepC g V G J s) (hJ : J 0) (hV : ∀ w', Below w.heap.size w w' → V w') (hs : s.size ≤ 1048576) (T : ByteArray) (E C : Nat)
    (hres : (if pre (s.extract (cl s.size p) s.size) qt = true then G (cl s.size p + 1) [] ByteArray.empty 0 else (ByteArray.empty, cl s.size p, 10)) = (T, E, C)) (hq : pre (s.extract (cl s.size p) s.size) qt = true → cl s.size p < s.size) :
    Calls Tryd.prog 11 #[.string s, .int .i64 p, .string qt, .func (.func g) #[] #[]] w fun e w' => e = .returned (.tuple #[.string T, .int .i64 (E : Int), .int .i64 (C : Int)]) ∧ Below w.heap.size w w' := by
  have hmf : ∀ (fn : Fn) (first cap : Array Value) (w : World), (Instr.makeFunc fn first cap).run Tryd.prog w = .ok (.func fn first cap) w := fun _ _ _ _ => rfl
  have hcl := cl_le s.size p
  have hmx : s.size ≤ mx := by unfold mx; omega
  have HST : Hid (StepC g V G J s) := hstep
  have HV : Hid (∀ w', Below w.heap.size w w' → V w') := hV
  have HJ : Hid (J 0) := hJ
  obtain ⟨k, hk⟩ : ∃ k, cl s.size p = k := ⟨_, rfl⟩
  have cB := bring_any s p (((w.alloc (.cells #[.string ⟨#[]⟩] 9)).alloc (.cells #[.int .i64 0] 3)).alloc (.cells #[.int .i64 0] 3)) hmx
  rw [hk] at cB hres hq hcl
  have HRES : Hid ((if pre (s.extract k s.size) qt = true then G (k + 1) [] ByteArray.empty 0 else (ByteArray.empty, k, 10)) = (T, E, C)) := hres
  have HQ : Hid (pre (s.extract k s.size) qt = true → k < s.size) := hq
  clear hstep hV hJ hres hq hk
  go_enter_defers Tryd.func11, Tryd.ntmps11
  go_wp2_with fail
  refine cB.mono ?_
  rintro e w1 ⟨rfl, hw1⟩
  clear cB
  have HW1 : Hid (Vars w.heap.size w1) := by show Vars _ _; rw [hw1]; exact vars_new w
  have HB1 : Hid (Below w.heap.size w w1) := by show Below _ _ _; rw [hw1]; exact (((Below.refl _ w).alloc (Nat.le_refl _) _).alloc (by simp) _).alloc (by simp; omega) _
  have HZ1 : Hid (w1.heap.size = w.heap.size + 3) := by show _ = _; rw [hw1]; simp
  clear hw1
  go_wp2_with fail
  have HR0 : Hid (RdM w1.heap.size s k [] ByteArray.empty 0 (w1.alloc (.cells #[.string s, .int .i64 (k : Int), .slice none 0 0, .slice none 0 0, .int .i64 0] 38))) := rd_new w1 s k
  have HB2 : Hid (Below w.heap.size w (w1.alloc (.cells #[.string s, .int .i64 (k : Int), .slice none 0 0, .slice none 0 0, .int .i64 0] 38))) := HB1.out.alloc (by have := HZ1.out; omega) _
  have HW2 : Hid (Vars w.heap.size (w1.alloc (.cells #[.string s, .int .i64 (k : Int), .slice none 0 0, .slice none 0 0, .int .i64 0] 38))) := HW1.out.stays ((Below.refl w1.heap.size w1).alloc (Nat.le_refl _) _) (by have := HZ1.out; omega)
  have HZ2 : Hid (w.heap.size + 3 < (w1.alloc (.cells #[.string s, .int .i64 (k : Int), .slice none 0 0, .slice none 0 0, .int .i64 0] 38)).heap.size) := by show _ < _; have := HZ1.out; simp; omega
  obtain ⟨b, hb⟩ : ∃ b, w1.heap.size = b := ⟨_, rfl⟩
  rw [hb] at HR0 HZ1 ⊢
  obtain ⟨w2, hw2⟩ : ∃ w2, w1.alloc (.cells #[.string s, .int .i64 (k : Int), .slice none 0 0, .slice none 0 0, .int .i64 0] 38) = w2 := ⟨_, rfl⟩
  rw [hw2] at HR0 HB2 HW2 HZ2 ⊢
  clear hw2 hb HW1 HB1
  by_cases hp : pre (s.extract k s.size) qt = true
  · have hkl := HQ.out hp
    refine (open_yes b s qt k [] ByteArray.empty 0 w2 HR0.out hs hcl hp).mono ?_
    rintro e w3 ⟨rfl, hR3, hb3⟩
    have HG : Hid (G (k + 1) [] ByteArray.empty 0 = (T, E, C)) := by show _ = _; have h := HRES.out; rw [if_pos hp] at h; exact h
    have HZ : Hid (b = w.heap.size + 3) := HZ1.out
    have HW3 : Hid (Vars w.heap.size w3) := HW2.out.stays hb3 (by have := HZ.out; omega)
    have HB3 : Hid (Below w.heap.size w w3) := HB2.out.trans (hb3.mono (by have := HZ.out; omega))
    have HR3 : Hid (Rd b s (k + 1) [] ByteArray.empty 0 w3) := ⟨hR3, hs, hkl, Nat.zero_le _, Nat.zero_le _⟩
    clear hR3 hb3 hp HRES HQ HR0 HB2 HW2 HZ2 HZ1 hkl hcl hmx
    go_wp2_with fail
    go_loopw [24] (fun _ wr => ∃ (i : Nat) (l : List Pc) (cur : ByteArray) (fm : Nat), Hid (Rd b s i l cur fm wr) ∧ Hid (J fm) ∧ Hid (G i l cur fm = (T, E, C)) ∧ Hid (Vars w.heap.size wr) ∧ Hid (Below w.heap.size w wr)) (fun _ wr => s.size + 1 - atOf b wr)
    case atStart => exact ⟨k + 1, [], ByteArray.empty, 0, HR3, HJ, HG, HW3, HB3⟩
    case round =>
      obtain ⟨i, l, cur, fm, HR, HJ1, HGi, HWr, HBr⟩ := hrel
      clear HR3 HJ HG HW3 HB3
      go_wp2_with fail
      refine (HST.out b i l cur fm wr HR.out HJ1.out (HV.out _ HBr.out)).mono ?_
      rintro e w4 ⟨hb4, ⟨rfl, i', l', cur', fm', hR4, hii, hJ4, hG4⟩ | ⟨rfl, i', hR4, hG4⟩ | ⟨c, pl, rfl, hG4⟩⟩
      · have HN : Hid (Rd b s i' l' cur' fm' w4 ∧ J fm' ∧ G i' l' cur' fm' = (T, E, C) ∧ Vars w.heap.size w4 ∧ Below w.heap.size w w4) := ⟨hR4, hJ4, hG4.trans HGi.out, HWr.out.stays hb4 (by have := HZ.out; omega), HBr.out.trans (hb4.mono (by have := HZ.out; omega))⟩
        have HM : Hid (s.size + 1 - atOf b w4 < s.size + 1 - atOf b wr) := by
          show _ < _
          rw [atOf_is hR4.1, atOf_is HR.out.1]
          have := hR4.2.2.1
          omega
        clear hb4 hR4 hii hJ4 hG4
        go_wp2_with fail
        go_roundw
        case rel => exact ⟨i', l', cur', fm', HN.out.1, HN.out.2.1, HN.out.2.2.1, HN.out.2.2.2.1, HN.out.2.2.2.2⟩
        case measure => exact HM.out
      · have HN : Hid (RdM b s i' l cur fm w4 ∧ Vars w.heap.size w4 ∧ Below w.heap.size w w4) := ⟨hR4.1, HWr.out.stays hb4 (by have := HZ.out; omega), HBr.out.trans (hb4.mono (by have := HZ.out; omega))⟩
        have HL : Hid (totC l + l.length + cur.size ≤ 4194304) := by show _ ≤ _; have h1 := hR4.2.1; have h2 := hR4.2.2.1; have h3 := hR4.2.2.2.2; omega
        have HE : Hid ((foldFlow (l ++ [(cur, false)]), i', 0) = (T, E, C)) := by show _ = _; rw [← hG4]; exact HGi.out
        obtain ⟨t, ht⟩ : ∃ t, foldFlow (l ++ [(cur, false)]) = t := ⟨_, rfl⟩
        have cT := text_any implFf b s i' l cur fm w4.drew HN.out.1 HL.out
        rw [ht] at cT HE
        obtain ⟨c1, _⟩ := rd_c1 HN.out.1
        clear hb4 hR4 hG4 ht HL
        go_wp2_with fail
        have n0 : w.heap.size ≠ b := by have := HZ.out; omega
        have n1 : w.heap.size + 1 ≠ b := by have := HZ.out; omega
        have n2 : w.heap.size + 1 + 1 ≠ b := by have := HZ.out; omega
        have m0 := n0.symm
        have m1 := n1.symm
        have m2 := n2.symm
        go_region_held3 (fun W => W.cell? ⟨b, 1, none⟩ = some (.int .i64 (i' : Int)))
          (first | exact c1 | exact d1 | go_keep)
          ((go_at_call 19; refine cT.mono ?_; rintro e w5 ⟨rfl, hR5, hb5⟩; have d1 := (rd_c1 hR5).1; have hV5 := Vars.stays (w := w4.drew) HN.out.2.1 hb5 (by have := HZ.out; omega); have v0 : w5.cell? ⟨w.heap.size, 0, none⟩ = some (.string ⟨#[]⟩) := Lib.cell_of_heap hV5.1 0; have v1 : w5.cell? ⟨w.heap.size + 1, 0, none⟩ = some (.int .i64 0) := Lib.cell_of_heap hV5.2.1 0; have v2 : w5.cell? ⟨w.heap.size + 1 + 1, 0, none⟩ = some (.int .i64 0) := Lib.cell_of_heap hV5.2.2 0; have g0 := Lib.frozen_of_heap hV5.1 0; have g1 := Lib.frozen_of_heap hV5.2.1 0; have g2 := Lib.frozen_of_heap hV5.2.2 0))
        have HX := vars_read2 (t := t) (c := 0) (at_ := (i' : Int)) hV5 (HN.out.2.2.drew.trans (hb5.mono (by have := HZ.out; omega)))
        clear hR5 hb5 d1 hV5 v0 v1 v2 g0 g1 g2 c1
        generalize ((w5.setCell ⟨w.heap.size, 0, none⟩ (.string t)).setCell ⟨w.heap.size + 1, 0, none⟩ (.int .i64 (i' : Int))).setCell ⟨w.heap.size + 1 + 1, 0, none⟩ (.int .i64 0) = F at *
        obtain ⟨⟨q0, q1, q2⟩, hfin⟩ := HX
        have HQ0 : Hid (F.cell? ⟨w.heap.size, 0, none⟩ = some (.string t) ∧ F.cell? ⟨w.heap.size + 1, 0, none⟩ = some (.int .i64 (i' : Int)) ∧ F.cell? ⟨w.heap.size + 1 + 1, 0, none⟩ = some (.int .i64 0)) := ⟨q0, q1, q2⟩
        have HFIN : Hid (Below w.heap.size w F) := hfin
        clear q0 q1 q2 hfin n0 n1 n2 m0 m1 m2 cT
        go_wp2_with fail
        refine leaves_cons (f := 16) (args := #[.pointer (some ⟨w.heap.size, 0, none⟩), .pointer (some ⟨w.heap.size + 1, 0, none⟩), .pointer (some ⟨w.heap.size + 1 + 1, 0, none⟩)]) (by simp) (by simp [go_sem]) ?_
        refine (catch_idle _ _ _ _).mono ?_
        rintro e u' F' ⟨rfl, rfl, rfl⟩
        simp only [settle]
        have e0 := HE.out
        injection e0 with e1 e2
        injection e2 with e2 e3
        subst e1
        subst e2
        subst e3
        obtain ⟨q0, q1, q2⟩ := HQ0.out
        refine ⟨.tuple #[.string t, .int .i64 (i' : Int), .int .i64 0], ?_, rfl, HFIN.out⟩
        simp [results, Tryd.results11, asAddr, loadVar, isAgg, run_underlying Tryd.underlying9, run_underlying Tryd.underlying3, go_sem, q0, q1, q2]
      · have HW4 : Hid (Vars w.heap.size w4) := HWr.out.stays hb4 (by have := HZ.out; omega)
        have HB4 : Hid (Below w.heap.size w w4) := HBr.out.trans (hb4.mono (by have := HZ.out; omega))
        have HZ4 : Hid (w.heap.size + 3 ≤ w4.heap.size) := by show _ ≤ _; have h1 := HZ.out; have h2 := HR.out.1.lt; have h3 := hb4.size; omega
        have HE : Hid ((ByteArray.empty, pl, c) = (T, E, C)) := by show _ = _; rw [← hG4]; exact HGi.out
        clear hb4 hG4
        unfold faultE
        refine leaves_cons (f := 16) (args := #[.pointer (some ⟨w.heap.size, 0, none⟩), .pointer (some ⟨w.heap.size + 1, 0, none⟩), .pointer (some ⟨w.heap.size + 1 + 1, 0, none⟩)]) (by simp) (by simp [go_sem]) ?_
        refine (catch_vars (c : Int) (pl : Int) HW4.out HB4.out HZ4.out).mono ?_
        rintro e u' F ⟨rfl, rfl, ⟨q0, q1, q2⟩, hfin⟩
        simp only [settle]
        have e0 := HE.out
        injection e0 with e1 e2
        injection e2 with e2 e3
        subst e1
        subst e2
        subst e3
        refine ⟨.tuple #[.string ⟨#[]⟩, .int .i64 (pl : Int), .int .i64 (c : Int)], ?_, rfl, hfin⟩
        simp [results, Tryd.results11, asAddr, loadVar, isAgg, run_underlying Tryd.underlying9, run_underlying Tryd.underlying3, go_sem, q0, q1, q2]
  · have hp' : pre (s.extract k s.size) qt = false := by cases h : pre (s.extract k s.size) qt with
      | true => exact absurd h hp
      | false => rfl
    refine (open_no b s qt k [] ByteArray.empty 0 w2 HR0.out hcl hp').mono ?_
    rintro e w3 ⟨rfl, hb3⟩
    have HE : Hid ((ByteArray.empty, k, 10) = (T, E, C)) := by show _ = _; have h := HRES.out; rw [if_neg hp] at h; exact h
    have HW4 : Hid (Vars w.heap.size w3) := HW2.out.stays hb3 (by have := HZ2.out; omega)
    have HB4 : Hid (Below w.heap.size w w3) := HB2.out.trans (hb3.mono (by have := HZ2.out; omega))
    have HZ4 : Hid (w.heap.size + 3 ≤ w3.heap.size) := by show _ ≤ _; have h1 := HZ2.out; have h3 := hb3.size; omega
    unfold faultE
    refine leaves_cons (f := 16) (args := #[.pointer (some ⟨w.heap.size, 0, none⟩), .pointer (some ⟨w.heap.size + 1, 0, none⟩), .pointer (some ⟨w.heap.size + 1 + 1, 0, none⟩)]) (by simp) (by simp [go_sem]) ?_
    refine (catch_vars (10 : Int) (k : Int) HW4.out HB4.out HZ4.out).mono ?_
    rintro e u' F ⟨rfl, rfl, ⟨q0, q1, q2⟩, hfin⟩
    simp only [settle]
    have e0 := HE.out
    injection e0 with e1 e2
    injection e2 with e2 e3
    subst e1
    subst e2
    subst e3
    refine ⟨.tuple #[.string ⟨#[]⟩, .int .i64 (k : Int), .int .i64 (10 : Int)], ?_, rfl, hfin⟩
    simp [results, Tryd.results11, asAddr, loadVar, isAgg, run_underlying Tryd.underlying9, run_underlying Tryd.underlying3, go_sem, q0, q1, q2]
end Go.Proofs.YtcajfnhbfciahajDoor
