/- The contract of impl.quotedAt, over that of its step: the closure that reads, caught around it, and the face. -/
import Derived.Test.YtfbgdkfnidghcajDoorStp
import Derived.Test.YtfbgdkfnidghcajDoorCgh
import Derived.Test.YtfbgdkfnidghcajDoorIff
import Derived.BigQuiet
namespace Go.Proofs.YtfbgdkfnidghcajDoor
open Go.ChangeShapes Go.WideShapes Go.ChangeAt Go.RowKit Go.Deep
/-- The reader as it is made. -/
theorem rd_new (W : World) (s : ByteArray) (k : Nat) : RdM W.heap.size s k [] ByteArray.empty 0 (W.alloc (.cells #[.string s, .int .i64 (k : Int), .slice none 0 0, .slice none 0 0, .int .i64 0] 36)) :=
  ⟨none, 0, 0, none, 0, 0, heap_alloc_new W _, World.ownsRow_nil _ _ _ _, World.ownsRow_nil _ _ _ _⟩
def atOf (b : Nat) (w : World) : Nat := match w.cell? ⟨b, 1, none⟩ with
  | some (.int _ i) => i.toNat
  | _ => 0
theorem atOf_is {b : Nat} {s : ByteArray} {i : Nat} {l : List Pc} {cur : ByteArray} {fm : Nat} {w : World} (h : RdM b s i l cur fm w) : atOf b w = i := by
  unfold atOf
  rw [(rd_c1 h).1]
  simp
/-- A row stays where its own block stays. -/
theorem row_keep {w w' : World} {lo e sz : Nat} {v : Value} {n : Nat} {xs : List Value} (h : w.ownsRow lo e sz v n xs) (hk : ∀ k, v.ownBlock = some k → k < w.heap.size → w'.heap[k]? = w.heap[k]?) : w'.ownsRow lo e sz v n xs := by
  refine ⟨h.1, ?_⟩
  rcases h.2 with hn | ⟨g, cap, cur, rfl, hlo, hg, rest⟩
  · exact .inl hn
  · exact .inr ⟨g, cap, cur, rfl, hlo, by rw [hk g rfl (Array.getElem?_eq_some_iff.1 hg).1]; exact hg, rest⟩
theorem RdM.beside {a b : Nat} {s : ByteArray} {i : Nat} {l : List Pc} {cur : ByteArray} {fm : Nat} {W w' : World} (h : RdM b s i l cur fm W) (hs : Beside a W w') (hab : b ≠ a) {cs : Array Value} {r : Nat × Nat} (ha : W.heap[a]? = some (.cells cs 38 r)) : RdM b s i l cur fm w' := by
  obtain ⟨la, ln, lc, ca, cn, cc, h1, h2, h3⟩ := h
  refine ⟨la, ln, lc, ca, cn, cc, (hs.block b h1.lt hab).trans h1, row_keep h2 (fun k hk hlt => hs.block k hlt (fun e => ?_)), row_keep h3 (fun k hk hlt => hs.block k hlt (fun e => ?_))⟩
  · subst e
    exact row_not h2 ha (by decide) hk
  · subst e
    exact row_not h3 ha (by decide) hk
/-- The three variables that the closure reads: the reader's (behind it), the quote's and the step's (ahead of it). -/
structure Trio (g b q0 q1 : Nat) (qt : ByteArray) (w : World) : Prop where
  r : w.heap[b + 1]? = some (.cells #[.pointer (some ⟨b, 0, none⟩)] 34 (0, 0))
  q : w.heap[q0]? = some (.cells #[.string qt] 9 (0, 0))
  f : w.heap[q1]? = some (.cells #[.func (.func g) #[] #[]] 33 (0, 0))
  lq : q0 < b
  lf : q1 < b
theorem Trio.stays {g b q0 q1 : Nat} {qt : ByteArray} {w w' : World} (h : Trio g b q0 q1 qt w) (hf : Fq b w w') : Trio g b q0 q1 qt w' :=
  ⟨hf.keep _ _ _ _ (Nat.lt_succ_self b) h.r (by decide) (by decide), (hf.below.block _ h.lq).trans h.q, (hf.below.block _ h.lf).trans h.f, h.lq, h.lf⟩
/-- What the closure leaves. -/
def QPost (b : Nat) (s : ByteArray) (T : ByteArray) (E C : Nat) (w : World) (e : Ending) (W : World) : Prop :=
  Fq b w W ∧ ((e = .returned (.tuple #[]) ∧ ∃ i l cur fm, RdM b s i l cur fm W ∧ totC l + l.length + cur.size ≤ 4194304 ∧ (foldFlow (l ++ [(cur, false)]), i, 0) = (T, E, C)) ∨ (∃ c p : Nat, e = faultX c p ∧ c ≠ 0 ∧ (ByteArray.empty, p, c) = (T, E, C)))
set_option maxHeartbeats 8000000 in
theorem qclos_any (g : Nat) (eg : ∀ args w, (callFunc g args).run Tryd.prog w = .ok (.enter g args) w) (V : World → Prop) (G : Nat → List Pc → ByteArray → Nat → ByteArray × Nat × Nat) (J : Nat → Prop) (s qt : ByteArray) (b q0 q1 k : Nat) (w : World)
    (hstep : StepC g V G J s) (hJ : J 0) (hV : ∀ w', Below b w w' → V w') (hs : s.size ≤ 1048576) (hk : k ≤ s.size) (hR : RdM b s k [] ByteArray.empty 0 w) (hT : Trio g b q0 q1 qt w) (T : ByteArray) (E C : Nat)
    (hres : (if pre (s.extract k s.size) qt = true then G (k + 1) [] ByteArray.empty 0 else (ByteArray.empty, k, 10)) = (T, E, C)) (hq : pre (s.extract k s.size) qt = true → k < s.size) :
    Calls Tryd.prog 18 #[.pointer (some ⟨b + 1, 0, none⟩), .pointer (some ⟨q0, 0, none⟩), .pointer (some ⟨q1, 0, none⟩)] w fun e W => QPost b s T E C w e W := by
  have HST : Hid (StepC g V G J s) := hstep
  have HV : Hid (∀ w', Below b w w' → V w') := hV
  have HJ : Hid (J 0) := hJ
  have HRES : Hid ((if pre (s.extract k s.size) qt = true then G (k + 1) [] ByteArray.empty 0 else (ByteArray.empty, k, 10)) = (T, E, C)) := hres
  have HQ : Hid (pre (s.extract k s.size) qt = true → k < s.size) := hq
  have HT : Hid (Trio g b q0 q1 qt w) := hT
  have HR0 : Hid (RdM b s k [] ByteArray.empty 0 w) := hR
  have c1 := Lib.cell_of_heap hT.r 0
  have c2 := Lib.cell_of_heap hT.q 0
  clear hstep hV hJ hres hq hR hT
  go_enter Tryd.func18, Tryd.ntmps18
  go_wp2_with fail
  by_cases hp : pre (s.extract k s.size) qt = true
  · have hkl := HQ.out hp
    refine (open_yes b s qt k [] ByteArray.empty 0 w HR0.out hs hk hp).mono ?_
    rintro e w3 ⟨rfl, hR3, hb3⟩
    have HG : Hid (G (k + 1) [] ByteArray.empty 0 = (T, E, C)) := by show _ = _; have h := HRES.out; rw [if_pos hp] at h; exact h
    have HB3 : Hid (Fq b w w3) := hb3
    have HR3 : Hid (Rd b s (k + 1) [] ByteArray.empty 0 w3) := ⟨hR3, hs, hkl, Nat.zero_le _, Nat.zero_le _⟩
    clear hR3 hb3 hp HRES HQ HR0 hkl hk c1 c2
    go_wp2_with fail
    go_loopw [8] (fun _ wr => ∃ (i : Nat) (l : List Pc) (cur : ByteArray) (fm : Nat), Hid (Rd b s i l cur fm wr) ∧ Hid (J fm) ∧ Hid (G i l cur fm = (T, E, C)) ∧ Hid (Fq b w wr)) (fun _ wr => s.size + 1 - atOf b wr)
    case atStart => exact ⟨k + 1, [], ByteArray.empty, 0, HR3, HJ, HG, HB3⟩
    case round =>
      obtain ⟨i, l, cur, fm, HR, HJ1, HGi, HBr⟩ := hrel
      have hT := HT.out.stays HBr.out
      have c1 := Lib.cell_of_heap hT.r 0
      have c2 := Lib.cell_of_heap hT.f 0
      clear HR3 HJ HG HB3 hT
      go_wp2_with fail
      refine (HST.out b i l cur fm wr HR.out HJ1.out (HV.out _ HBr.out.below)).mono ?_
      rintro e w4 ⟨hb4, ⟨rfl, i', l', cur', fm', hR4, hii, hJ4, hG4⟩ | ⟨rfl, i', hR4, hG4⟩ | ⟨c, pl, rfl, hc0, hG4⟩⟩
      · have HN : Hid (Rd b s i' l' cur' fm' w4 ∧ J fm' ∧ G i' l' cur' fm' = (T, E, C) ∧ Fq b w w4) := ⟨hR4, hJ4, hG4.trans HGi.out, HBr.out.trans hb4⟩
        have HM : Hid (s.size + 1 - atOf b w4 < s.size + 1 - atOf b wr) := by
          show _ < _
          rw [atOf_is hR4.1, atOf_is HR.out.1]
          have := hR4.2.2.1
          omega
        clear hb4 hR4 hii hJ4 hG4 c1 c2
        go_wp2_with fail
        go_roundw
        case rel => exact ⟨i', l', cur', fm', HN.out.1, HN.out.2.1, HN.out.2.2.1, HN.out.2.2.2⟩
        case measure => exact HM.out
      · have HO : Hid (QPost b s T E C w (.returned (.tuple #[])) w4) := ⟨HBr.out.trans hb4, .inl ⟨rfl, i', l, cur, fm, hR4.1, by have h1 := hR4.2.1; have h2 := hR4.2.2.1; have h3 := hR4.2.2.2.2; omega, by rw [← hG4]; exact HGi.out⟩⟩
        clear hb4 hR4 hG4 c1 c2
        go_wp2_with fail
        go_end0
        exact HO.out
      · have HO : Hid (QPost b s T E C w (faultE c pl) w4) := ⟨HBr.out.trans hb4, .inr ⟨c, pl, rfl, hc0, by rw [← hG4]; exact HGi.out⟩⟩
        clear hb4 hG4 hc0 c1 c2
        unfold faultE
        exact ⟨rfl, HO.out⟩
  · have hp' : pre (s.extract k s.size) qt = false := by cases h : pre (s.extract k s.size) qt with
      | true => exact absurd h hp
      | false => rfl
    refine (open_no b s qt k [] ByteArray.empty 0 w HR0.out hk hp').mono ?_
    rintro e w3 ⟨rfl, hb3⟩
    have HO : Hid (QPost b s T E C w (faultE 10 k) w3) := ⟨Fq.of hb3 HR0.out.lt, .inr ⟨10, k, rfl, by decide, by have h := HRES.out; rw [if_neg hp] at h; exact h⟩⟩
    clear hb3 hp hp' HRES HQ HR0 hk c1 c2
    unfold faultE
    exact ⟨rfl, HO.out⟩
/-- What the closure leaves, in the words of caught's contract. -/
theorem qclos_caught (g : Nat) (eg : ∀ args w, (callFunc g args).run Tryd.prog w = .ok (.enter g args) w) (V : World → Prop) (G : Nat → List Pc → ByteArray → Nat → ByteArray × Nat × Nat) (J : Nat → Prop) (s qt : ByteArray) (q0 q1 k : Nat) (w1 : World)
    (hstep : StepC g V G J s) (hJ : J 0) (hV : ∀ w', Below w1.heap.size w1 w' → V w') (hs : s.size ≤ 1048576) (hk : k ≤ s.size) (T : ByteArray) (E C : Nat)
    (hres : (if pre (s.extract k s.size) qt = true then G (k + 1) [] ByteArray.empty 0 else (ByteArray.empty, k, 10)) = (T, E, C)) (hq : pre (s.extract k s.size) qt = true → k < s.size)
    (hq0 : w1.heap[q0]? = some (.cells #[.string qt] 9 (0, 0))) (hq1 : w1.heap[q1]? = some (.cells #[.func (.func g) #[] #[]] 33 (0, 0))) :
    Calls Tryd.prog 17 #[.func (.func 18) #[] #[.pointer (some ⟨w1.heap.size + 1, 0, none⟩), .pointer (some ⟨q0, 0, none⟩), .pointer (some ⟨q1, 0, none⟩)]]
      ((w1.alloc (.cells #[.string s, .int .i64 (k : Int), .slice none 0 0, .slice none 0 0, .int .i64 0] 36)).alloc (.cells #[.pointer (some ⟨w1.heap.size, 0, none⟩)] 34)) fun e w' =>
      Below w1.heap.size w1 w' ∧ w'.heap[w1.heap.size + 1]? = some (.cells #[.pointer (some ⟨w1.heap.size, 0, none⟩)] 34 (0, 0)) ∧
      ((e = .returned (.agg #[.int .i64 0, .int .i64 0]) ∧ ∃ i l cur fm, RdM w1.heap.size s i l cur fm w' ∧ totC l + l.length + cur.size ≤ 4194304 ∧ (foldFlow (l ++ [(cur, false)]), i, 0) = (T, E, C)) ∨
       (∃ c p : Nat, e = .returned (.agg #[.int .i64 (c : Int), .int .i64 (p : Int)]) ∧ c ≠ 0 ∧ (ByteArray.empty, p, c) = (T, E, C))) := by
  obtain ⟨b, hb⟩ : ∃ b, w1.heap.size = b := ⟨_, rfl⟩
  have l0 : q0 < b := by rw [← hb]; exact (Array.getElem?_eq_some_iff.1 hq0).1
  have l1 : q1 < b := by rw [← hb]; exact (Array.getElem?_eq_some_iff.1 hq1).1
  have hR0 := rd_new w1 s k
  rw [hb] at hR0
  obtain ⟨wA, hA⟩ : ∃ wA, w1.alloc (.cells #[.string s, .int .i64 (k : Int), .slice none 0 0, .slice none 0 0, .int .i64 0] 36) = wA := ⟨_, rfl⟩
  rw [hA] at hR0
  have hzA : wA.heap.size = b + 1 := by rw [← hA]; simp [hb]
  have bA : Below b w1 wA := by rw [← hA]; exact (Below.refl _ w1).alloc (by rw [hb]; exact Nat.le_refl _) _
  obtain ⟨wB, hB⟩ : ∃ wB, wA.alloc (.cells #[.pointer (some ⟨b, 0, none⟩)] 34) = wB := ⟨_, rfl⟩
  have hzB : wB.heap.size = b + 2 := by rw [← hB]; simp [hzA]
  have bB : Below wA.heap.size wA wB := by rw [← hB]; exact (Below.refl _ wA).alloc (Nat.le_refl _) _
  have hrB : wB.heap[b + 1]? = some (.cells #[.pointer (some ⟨b, 0, none⟩)] 34 (0, 0)) := by rw [← hB, ← hzA]; exact heap_alloc_new wA _
  obtain ⟨wC, hC⟩ : ∃ wC, wB.alloc (.cells #[.int .i64 0, .int .i64 0] 38) = wC := ⟨_, rfl⟩
  have bC : Below wB.heap.size wB wC := by rw [← hC]; exact (Below.refl _ wB).alloc (Nat.le_refl _) _
  have hfC : wC.heap[b + 2]? = some (.cells #[.int .i64 0, .int .i64 0] 38 (0, 0)) := by rw [← hC, ← hzB]; exact heap_alloc_new wB _
  have bAC : Below wA.heap.size wA wC := bB.trans (bC.mono (by omega))
  have b1C : Below b w1 wC := bA.trans (bAC.mono (by omega))
  have hrC : wC.heap[b + 1]? = some (.cells #[.pointer (some ⟨b, 0, none⟩)] 34 (0, 0)) := (bC.block _ (by omega)).trans hrB
  have hRC := hR0.stays bAC
  have hT : Trio g b q0 q1 qt wC := ⟨hrC, (b1C.block _ l0).trans hq0, (b1C.block _ l1).trans hq1, l0, l1⟩
  rw [hb] at hV ⊢
  rw [hA, hB]
  have cK := qclos_any g eg V G J s qt b q0 q1 k wC hstep hJ (fun w' h => hV w' (b1C.trans h)) hs hk hRC hT T E C hres hq
  have cC := caught_any 18 (enters_of Tryd.func18 (by kernel_rfl) rfl) #[.pointer (some ⟨b + 1, 0, none⟩), .pointer (some ⟨q0, 0, none⟩), .pointer (some ⟨q1, 0, none⟩)] wB
    (fun W => Fq b wC W ∧ ∃ i l cur fm, RdM b s i l cur fm W ∧ totC l + l.length + cur.size ≤ 4194304 ∧ (foldFlow (l ++ [(cur, false)]), i, 0) = (T, E, C))
    (fun c p W => Fq b wC W ∧ ∃ c' p' : Nat, c = (c' : Int) ∧ p = (p' : Int) ∧ c' ≠ 0 ∧ (ByteArray.empty, p', c') = (T, E, C)) (by
      rw [hC, hzB]
      refine cK.mono ?_
      rintro e W ⟨hF, ⟨rfl, hX⟩ | ⟨c, p, rfl, hc, hE⟩⟩
      · exact ⟨hF.keep _ _ _ _ (by omega) hfC (by decide) (by decide), .inl ⟨rfl, hF, hX⟩⟩
      · exact ⟨hF.keep _ _ _ _ (by omega) hfC (by decide) (by decide), .inr ⟨c, p, rfl, hF, c, p, rfl, rfl, hc, hE⟩⟩)
  refine cC.mono ?_
  rw [hzB]
  have fin : ∀ W w', Beside (b + 2) W w' → Fq b wC W → Below b w1 w' ∧ w'.heap[b + 1]? = some (.cells #[.pointer (some ⟨b, 0, none⟩)] 34 (0, 0)) := fun W w' hbs hF => by
    have hsz : b + 2 < W.heap.size := (Array.getElem?_eq_some_iff.1 (hF.keep _ _ _ _ (by omega) hfC (by decide) (by decide))).1
    exact ⟨hbs.below (b1C.trans hF.below) (by omega) (by omega), (hbs.block _ (by omega) (by omega)).trans (hF.keep _ _ _ _ (by omega) hrC (by decide) (by decide))⟩
  rintro e w' ⟨W, hbs, ⟨rfl, hF, i, l, cur, fm, hR, hl, hE⟩ | ⟨_, _, rfl, hF, c, p, rfl, rfl, hc, hE⟩⟩
  · exact ⟨(fin W w' hbs hF).1, (fin W w' hbs hF).2, .inl ⟨rfl, i, l, cur, fm, hR.beside hbs (by omega) (hF.keep _ _ _ _ (by omega) hfC (by decide) (by decide)), hl, hE⟩⟩
  · exact ⟨(fin W w' hbs hF).1, (fin W w' hbs hF).2, .inr ⟨c, p, rfl, hc, hE⟩⟩
set_option maxHeartbeats 8000000 in
theorem quoted_any (g : Nat) (eg : ∀ args w, (callFunc g args).run Tryd.prog w = .ok (.enter g args) w) (V : World → Prop) (G : Nat → List Pc → ByteArray → Nat → ByteArray × Nat × Nat) (J : Nat → Prop) (s qt : ByteArray) (p : Int) (w : World)
    (hstep : StepC g V G J s) (hJ : J 0) (hV : ∀ w', Below w.heap.size w w' → V w') (hs : s.size ≤ 1048576) (T : ByteArray) (E C : Nat)
    (hres : (if pre (s.extract (cl s.size p) s.size) qt = true then G (cl s.size p + 1) [] ByteArray.empty 0 else (ByteArray.empty, cl s.size p, 10)) = (T, E, C)) (hq : pre (s.extract (cl s.size p) s.size) qt = true → cl s.size p < s.size) :
    Calls Tryd.prog 11 #[.string s, .int .i64 p, .string qt, .func (.func g) #[] #[]] w fun e w' => e = .returned (.tuple #[.string T, .int .i64 (E : Int), .int .i64 (C : Int)]) ∧ Below w.heap.size w w' := by
  have hmf : ∀ (fn : Fn) (first cap : Array Value) (w : World), (Instr.makeFunc fn first cap).run Tryd.prog w = .ok (.func fn first cap) w := fun _ _ _ _ => rfl
  have hcl := cl_le s.size p
  have hmx : s.size ≤ mx := by unfold mx; omega
  have HST : Hid (StepC g V G J s) := hstep
  have HV : Hid (∀ w', Below w.heap.size w w' → V w') := hV
  have HJ : Hid (J 0) := hJ
  obtain ⟨k, hk⟩ : ∃ k, cl s.size p = k := ⟨_, rfl⟩
  have cB := bring_any s p ((w.alloc (.cells #[.string qt] 9)).alloc (.cells #[.func (.func g) #[] #[]] 33)) hmx
  rw [hk] at cB hres hq hcl
  have HRES : Hid ((if pre (s.extract k s.size) qt = true then G (k + 1) [] ByteArray.empty 0 else (ByteArray.empty, k, 10)) = (T, E, C)) := hres
  have HQ : Hid (pre (s.extract k s.size) qt = true → k < s.size) := hq
  have HEG : Hid (∀ args w, (callFunc g args).run Tryd.prog w = .ok (.enter g args) w) := eg
  clear hstep hV hJ hres hq hk eg
  go_enter Tryd.func11, Tryd.ntmps11
  go_wp2_with fail
  refine cB.mono ?_
  rintro e w1 ⟨rfl, hw1⟩
  clear cB
  have HX1 : Hid (w1.heap[w.heap.size]? = some (.cells #[.string qt] 9 (0, 0)) ∧ w1.heap[w.heap.size + 1]? = some (.cells #[.func (.func g) #[] #[]] 33 (0, 0))) := by
    rw [hw1]
    refine ⟨?_, ?_⟩
    · show ((w.heap.push _).push _)[_]? = _; rw [Array.getElem?_push, if_neg (by simp), Array.getElem?_push, if_pos rfl]
    · show ((w.heap.push _).push _)[_]? = _; rw [Array.getElem?_push, if_pos (by simp)]
  have HB1 : Hid (Below w.heap.size w w1) := by show Below _ _ _; rw [hw1]; exact ((Below.refl _ w).alloc (Nat.le_refl _) _).alloc (by simp) _
  have HZ1 : Hid (w1.heap.size = w.heap.size + 2) := by show _ = _; rw [hw1]; simp
  clear hw1
  go_wp2_with fail
  obtain ⟨b, hb⟩ : ∃ b, w1.heap.size = b := ⟨_, rfl⟩
  have cQ := qclos_caught g HEG.out V G J s qt w.heap.size (w.heap.size + 1) k w1 HST.out HJ.out (fun w' h => HV.out w' (HB1.out.trans (h.mono (by have := HZ1.out; omega)))) hs hcl T E C HRES.out HQ.out HX1.out.1 HX1.out.2
  refine cQ.mono ?_
  rw [hb]
  clear cQ HST HV HJ HRES HQ HEG HX1 hmx
  rintro e w4 ⟨hb4, hr4, ⟨rfl, i, l, cur, fm, hR, hl, hE⟩ | ⟨c, q, rfl, hc, hE⟩⟩
  · have HB4 : Hid (Below w.heap.size w w4) := HB1.out.trans (hb4.mono (by have := HZ1.out; omega))
    have HR : Hid (RdM b s i l cur fm w4) := hR
    have HL : Hid (totC l + l.length + cur.size ≤ 4194304) := hl
    have HE : Hid ((foldFlow (l ++ [(cur, false)]), i, 0) = (T, E, C)) := hE
    have HP : Hid (w4.heap[b + 1]? = some (.cells #[.pointer (some ⟨b, 0, none⟩)] 34 (0, 0))) := hr4
    have HBB : Hid (w.heap.size ≤ b) := by show _ ≤ _; have := HZ1.out; omega
    clear hR hl hE hr4 hb4 HB1 HZ1 hb
    obtain ⟨w5, h5⟩ : ∃ w5, w4.alloc (.cells #[.int .i64 0, .int .i64 0] 38) = w5 := ⟨_, rfl⟩
    have b5 : Below w4.heap.size w4 w5 := by rw [← h5]; exact (Below.refl _ w4).alloc (Nat.le_refl _) _
    have hf5 : w5.heap[w4.heap.size]? = some (.cells #[.int .i64 0, .int .i64 0] 38 (0, 0)) := by rw [← h5]; exact heap_alloc_new w4 _
    have HR5 : Hid (RdM b s i l cur fm w5) := HR.out.stays b5
    have HP5 : Hid (w5.heap[b + 1]? = some (.cells #[.pointer (some ⟨b, 0, none⟩)] 34 (0, 0))) := (b5.block _ (Array.getElem?_eq_some_iff.1 HP.out).1).trans HP.out
    have HB5 : Hid (Below w.heap.size w w5) := HB4.out.trans (b5.mono HB4.out.size)
    have H5 : Hid (w4.alloc (.cells #[.int .i64 0, .int .i64 0] 38) = w5) := h5
    clear h5 b5 hf5 HB4 HR HP
    go_wp2_with fail
    rw [H5.out]
    have p0 := Lib.cell_of_heap HP5.out 0
    obtain ⟨c1, _⟩ := rd_c1 HR5.out
    obtain ⟨t, ht⟩ : ∃ t, foldFlow (l ++ [(cur, false)]) = t := ⟨_, rfl⟩
    have cT := text_any implFf b s i l cur fm w5.drew HR5.out HL.out
    rw [ht] at cT HE
    clear ht HL H5
    go_region_held3 (fun W => W.cell? ⟨b + 1, 0, none⟩ = some (.pointer (some ⟨b, 0, none⟩)) ∧ W.cell? ⟨b, 1, none⟩ = some (.int .i64 (i : Int)))
      (first | exact ⟨p0, c1⟩ | exact ⟨d0, d1⟩ | go_keep)
      ((go_at_call 20; refine cT.mono ?_; rintro e w6 ⟨rfl, hR6, hF6⟩; have d1 := (rd_c1 hR6).1; have d0 : w6.cell? ⟨b + 1, 0, none⟩ = some (.pointer (some ⟨b, 0, none⟩)) := Lib.cell_of_heap (hF6.keep _ _ _ _ (Nat.lt_succ_self b) HP5.out (by decide) (by decide)) 0))
    have HB6 : Hid (Below w.heap.size w w6) := HB5.out.drew.trans (hF6.below.mono HBB.out)
    clear hR6 hF6 d0 d1 p0 c1 cT
    go_wp2_with fail
    have e0 := HE.out
    injection e0 with e1 e2
    injection e2 with e2 e3
    subst e1
    subst e2
    subst e3
    go_ret3
    exact ⟨rfl, HB6.out⟩
  · have HB4 : Hid (Below w.heap.size w w4) := HB1.out.trans (hb4.mono (by have := HZ1.out; omega))
    have HE : Hid ((ByteArray.empty, q, c) = (T, E, C)) := hE
    have hci : ((c : Int) != 0) = true := by simp; omega
    have hci2 : ¬ (c : Int) = 0 := by omega
    clear hc hE hr4 hb4 HB1 HZ1 hb
    go_wp2_with fail
    obtain ⟨w5, h5⟩ : ∃ w5, w4.alloc (.cells #[.int .i64 (c : Int), .int .i64 (q : Int)] 38) = w5 := ⟨_, rfl⟩
    have hf5 : w5.heap[w4.heap.size]? = some (.cells #[.int .i64 (c : Int), .int .i64 (q : Int)] 38 (0, 0)) := by rw [← h5]; exact heap_alloc_new w4 _
    have HB5 : Hid (Below w.heap.size w w5) := by show Below _ _ _; rw [← h5]; exact HB4.out.alloc HB4.out.size _
    rw [h5]
    have x0 : w5.cell? ⟨w4.heap.size, 0, none⟩ = some (.int .i64 (c : Int)) := Lib.cell_of_heap hf5 0
    have x1 : w5.cell? ⟨w4.heap.size, 1, none⟩ = some (.int .i64 (q : Int)) := Lib.cell_of_heap hf5 1
    clear h5 hf5 HB4 hci hci2
    go_quiet (fail)
    go_wp2_with fail
    have e0 := HE.out
    injection e0 with e1 e2
    injection e2 with e2 e3
    subst e1
    subst e2
    subst e3
    go_ret3
    exact ⟨rfl, HB5.out.trans ((below_drewN w5 _).mono HB5.out.size)⟩
end Go.Proofs.YtfbgdkfnidghcajDoor
